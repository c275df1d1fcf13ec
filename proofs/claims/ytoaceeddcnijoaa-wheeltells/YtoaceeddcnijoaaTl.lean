/- WheelTells: what the law keeps beside the wheel. No Go is walked here. -/
import Derived.Test.YtoaceeddcnijoaaKnown
import Derived.Test.YtoaceeddcnijoaaRcan
namespace Go.Proofs.Ytoaceeddcnijoaa
open Go.RowKit Go.Shelf Go.Lib Go.Sort

/-- Times and flags by numbers tell what is in the list. -/
structure Mt (L : List Dl) (A : Nat → Int) (H : Nat → Bool) : Prop where
  to : ∀ x ∈ L, H x.1.toNat = true ∧ A x.1.toNat = x.2
  back : ∀ n : Nat, n < 64 → H n = true → ∃ x ∈ L, x.1 = (n : Int)
def updI (A : Nat → Int) (i : Nat) (v : Int) : Nat → Int := fun j => if j = i then v else A j
def updB (A : Nat → Bool) (i : Nat) (v : Bool) : Nat → Bool := fun j => if j = i then v else A j
theorem mt_nil : Mt [] (fun _ => 0) (fun _ => false) := ⟨by simp, by simp⟩
theorem Mt.set {L : List Dl} {A : Nat → Int} {H : Nat → Bool} (h : Mt L A H) (hw : Lw L) {i : Nat} (hi : i < 64) {at1 : Int} : Mt (ins ((i : Int), at1) (rid i L)) (updI A i at1) (updB H i true) := by
  have hm : ∀ x, x ∈ ins ((i : Int), at1) (rid i L) ↔ x ∈ rid i L ∨ x = ((i : Int), at1) := fun x => by
    have hs := st_ins (L := rid i L) (hw.rest _).asc ((i : Int), at1)
    rw [hs.mem]
    simp
  constructor
  · intro x hx
    rcases (hm x).1 hx with q | rfl
    · have h1 := rid_ne x q
      have h2 : x ∈ L := List.filter_sublist.subset q
      have h3 := (hw.ok x h2).1
      have h4 : x.1.toNat ≠ i := by omega
      have h5 := h.to x h2
      simp [updI, updB, h4, h5]
    · simp [updI, updB]
  · intro n hn hH
    by_cases e : n = i
    · subst e
      exact ⟨_, (hm _).2 (.inr rfl), rfl⟩
    · simp only [updB, if_neg e] at hH
      obtain ⟨x, hx, hx1⟩ := h.back n hn hH
      refine ⟨x, (hm x).2 (.inl ?_), hx1⟩
      refine List.mem_filter.2 ⟨hx, ?_⟩
      simp
      omega
theorem Mt.can {L : List Dl} {A : Nat → Int} {H : Nat → Bool} (h : Mt L A H) (hw : Lw L) {i : Nat} (hi : i < 64) : Mt (rid i L) A (updB H i false) := by
  constructor
  · intro x hx
    have h1 := rid_ne x hx
    have h2 : x ∈ L := List.filter_sublist.subset hx
    have h3 := (hw.ok x h2).1
    have h4 : x.1.toNat ≠ i := by omega
    have h5 := h.to x h2
    simp [updB, h4, h5]
  · intro n hn hH
    by_cases e : n = i
    · subst e
      simp [updB] at hH
    · simp only [updB, if_neg e] at hH
      obtain ⟨x, hx, hx1⟩ := h.back n hn hH
      refine ⟨x, List.mem_filter.2 ⟨hx, ?_⟩, hx1⟩
      simp
      omega
/-- Flags of those listed are taken away. -/
def offs (H : Nat → Bool) : List Int → Nat → Bool
  | [] => H
  | a :: r => offs (updB H a.toNat false) r
theorem offs_at (H : Nat → Bool) : ∀ (l : List Int) (n : Nat), offs H l n = (H n && !(l.any fun a => a.toNat == n))
  | [], n => by simp [offs]
  | a :: r, n => by
    rw [offs, offs_at _ r n]
    by_cases e : n = a.toNat
    · subst e; simp [updB]
    · have : (a.toNat == n) = false := by simp; omega
      simp [updB, e, this]
theorem offs_snoc (H : Nat → Bool) (l : List Int) (a : Int) : offs H (l ++ [a]) = updB (offs H l) a.toNat false := by
  funext n
  rw [offs_at]
  by_cases e : n = a.toNat
  · subst e; simp [updB]
  · have h1 : (a.toNat == n) = false := by simp; omega
    simp [updB, e, h1, offs_at]
theorem fst_inj {L : List Dl} (hw : Lw L) {x y : Dl} (hx : x ∈ L) (hy : y ∈ L) (h : x.1 = y.1) : x = y := by
  have hn := hw.once
  obtain ⟨i, hi, rfl⟩ := List.mem_iff_getElem.1 hx
  obtain ⟨j, hj, rfl⟩ := List.mem_iff_getElem.1 hy
  have h2 : i = j := by
    rcases Nat.lt_trichotomy i j with q | q | q
    · exact absurd h (List.pairwise_iff_getElem.1 (List.pairwise_map.1 hn) i j hi hj q)
    · exact q
    · exact absurd h.symm (List.pairwise_iff_getElem.1 (List.pairwise_map.1 hn) j i hj hi q)
  subst h2
  rfl
theorem Mt.due {L : List Dl} {A : Nat → Int} {H : Nat → Bool} (h : Mt L A H) (hw : Lw L) (now : Int) : Mt (dueL now L) A (offs H (dueO now L)) := by
  constructor
  · intro x hx
    have h2 : x ∈ L := List.filter_sublist.subset hx
    have h3 : ¬ x.2 ≤ now := by simpa using (List.mem_filter.1 hx).2
    have h5 := h.to x h2
    refine ⟨?_, h5.2⟩
    rw [offs_at, h5.1, Bool.true_and]
    simp only [Bool.not_eq_true', List.any_eq_false, beq_iff_eq]
    intro a ha e
    obtain ⟨y, hy, rfl⟩ := List.mem_map.1 ha
    obtain ⟨hy1, hy2⟩ := List.mem_filter.1 hy
    have h6 := (hw.ok x h2).1
    have h7 := (hw.ok y hy1).1
    have := fst_inj hw hy1 h2 (by omega)
    subst this
    exact h3 (by simpa using hy2)
  · intro n hn hH
    rw [offs_at, Bool.and_eq_true] at hH
    obtain ⟨x, hx, hx1⟩ := h.back n hn hH.1
    refine ⟨x, List.mem_filter.2 ⟨hx, ?_⟩, hx1⟩
    simp only [Bool.not_eq_true', decide_eq_false_iff_not]
    intro hle
    have h8 := hH.2
    simp only [Bool.not_eq_true', List.any_eq_false, beq_iff_eq] at h8
    exact h8 x.1 (List.mem_map.2 ⟨x, List.mem_filter.2 ⟨hx, by simpa using hle⟩, rfl⟩) (by omega)

/-! ### Arrays of 64 -/
def aI (A : Nat → Int) : Nat → Value := fun i => .int .i64 (A i)
def aB (H : Nat → Bool) : Nat → Value := fun i => .bool (H i)
def Ar (w : World) (b : Nat) (t : TypeId) (f : Nat → Value) : Prop := w.heap[b]? = some (.cells (vcl f 64 0).toArray t (0, 0))
theorem Ar.cell {w : World} {b : Nat} {t : TypeId} {f : Nat → Value} (h : Ar w b t f) (i : Nat) (hi : i < 64) : w.cell? ⟨b, i, none⟩ = some (f i) := by
  rw [cell_of_row w b i _ _ _ h, List.getElem?_toArray]
  have := vcl_at f 64 0 i hi
  rw [Nat.zero_add] at this
  exact this
theorem Ar.free {w : World} {b : Nat} {t : TypeId} {f : Nat → Value} (h : Ar w b t f) (i : Nat) : w.frozen? ⟨b, i, none⟩ = false := by simp [World.frozen?, show w.heap[b]? = _ from h]
theorem Ar.keep {w w' : World} {b : Nat} {t : TypeId} {f : Nat → Value} (h : Ar w b t f) {rws : List Nat} (hk : Kp w w' rws) (hr : b ∉ rws) : Ar w' b t f := (hk.block b (lt_of_block h) hr).trans h
theorem Ar.set {w : World} {b : Nat} {t : TypeId} {f : Nat → Value} (h : Ar w b t f) (i : Nat) (hi : i < 64) (v : Value) : Ar (w.setCell ⟨b, i, none⟩ v) b t (updV f i v) := by
  unfold Ar
  rw [heap_setCell_same w b i _ t _ h, List.setIfInBounds_toArray, vcl_set f 64 i v hi]
theorem aI_upd (A : Nat → Int) (i : Nat) (v : Int) : updV (aI A) i (.int .i64 v) = aI (updI A i v) := by
  funext j; unfold updV aI updI; split <;> rfl
theorem aB_upd (H : Nat → Bool) (i : Nat) (v : Bool) : updV (aB H) i (.bool v) = aB (updB H i v) := by
  funext j; unfold updV aB updB; split <;> rfl

/-- WheelTells' state. -/
structure Tl (w W : World) (wb ab hb : Nat) (F : Nat → Value) (L : List Dl) (A : Nat → Int) (H : Nat → Bool) : Prop where
  wl : Wl W wb F L
  fr : ∀ k ∈ rows F wb, w.heap.size ≤ k
  ar : Ar W ab 35 (aI A)
  hr : Ar W hb 36 (aB H)
  kp : Kp w W []
  na : w.heap.size ≤ ab ∧ w.heap.size ≤ hb
section
variable {w W W' : World} {wb ab hb : Nat} {F : Nat → Value} {L : List Dl} {A : Nat → Int} {H : Nat → Bool}
theorem Tl.keep (h : Tl w W wb ab hb F L A H) (hk : Kp W W' []) : Tl w W' wb ab hb F L A H := ⟨h.wl.same hk, h.fr, h.ar.keep hk (by simp), h.hr.keep hk (by simp), h.kp.trans hk, h.na⟩
theorem Tl.ne (h : Tl w W wb ab hb F L A H) : (∀ k ∈ rows F wb, k ≠ ab ∧ k ≠ hb) ∧ ab ≠ hb := by
  refine ⟨fun k hk => ?_, block_ne h.ar h.hr (by decide)⟩
  obtain ⟨c, t, hc, ht⟩ := h.wl.kind hk
  exact ⟨fun e => by subst e; exact block_ne h.ar hc (by rcases ht with rfl | rfl <;> decide) rfl, fun e => by subst e; exact block_ne h.hr hc (by rcases ht with rfl | rfl <;> decide) rfl⟩
/-- The wheel has changed. -/
theorem Tl.turn (h : Tl w W wb ab hb F L A H) {F' : Nat → Value} {L' : List Dl} (hw : Wl W' wb F' L') (hk : Kp W W' (rows F wb)) (hn : Nr F' F W.heap.size) : Tl w W' wb ab hb F' L' A H := by
  have hne := h.ne
  refine ⟨hw, fun k hk' => ?_, h.ar.keep hk (fun hm => (hne.1 ab hm).1 rfl), h.hr.keep hk (fun hm => (hne.1 hb hm).2 rfl), h.kp.past hk (fun k hm hl => by have := h.fr k hm; omega), h.na⟩
  rcases hn.rows hk' with q | q
  · exact h.fr k q
  · have := h.kp.size; omega
theorem Tl.setA (h : Tl w W wb ab hb F L A H) (i : Nat) (hi : i < 64) (v : Int) : Tl w (W.setCell ⟨ab, i, none⟩ (.int .i64 v)) wb ab hb F L (updI A i v) H := by
  have hne := h.ne
  have hk := Kp.setCell W ⟨ab, i, none⟩ (.int .i64 v)
  refine ⟨h.wl.keep hk (fun k hm => by simpa using (hne.1 k hm).1), h.fr, ?_, h.hr.keep hk (by simpa using fun e => hne.2 e.symm), h.kp.past hk (fun k hm hl => by have := h.na; simp at hm; omega), h.na⟩
  rw [← aI_upd]
  exact h.ar.set i hi _
theorem Tl.setH (h : Tl w W wb ab hb F L A H) (i : Nat) (hi : i < 64) (v : Bool) : Tl w (W.setCell ⟨hb, i, none⟩ (.bool v)) wb ab hb F L A (updB H i v) := by
  have hne := h.ne
  have hk := Kp.setCell W ⟨hb, i, none⟩ (.bool v)
  refine ⟨h.wl.keep hk (fun k hm => by simpa using (hne.1 k hm).2), h.fr, h.ar.keep hk (by simpa using hne.2), ?_, h.kp.past hk (fun k hm hl => by have := h.na; simp at hm; omega), h.na⟩
  rw [← aB_upd]
  exact h.hr.set i hi _
end
end Go.Proofs.Ytoaceeddcnijoaa
