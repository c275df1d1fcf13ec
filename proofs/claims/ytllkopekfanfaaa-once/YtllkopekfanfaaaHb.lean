/- Who is held, in a box; what is kept when each is handed over once. -/
import Derived.Test.YtllkopekfanfaaaKw
namespace Go.Proofs.Ytllkopekfanfaaa
open Go.RowKit Go.Shelf Go.Lib Go.Sort Go.Maps
attribute [local go_sem] Oper.semAt_some

def vcl (F : Nat → Value) : Nat → Nat → List Value
  | 0, _ => []
  | k + 1, i => F i :: vcl F k (i + 1)
theorem vcl_length (F : Nat → Value) (k i : Nat) : (vcl F k i).length = k := by
  induction k generalizing i with
  | zero => rfl
  | succ k ih => simp [vcl, ih]
theorem vcl_at (F : Nat → Value) (k i j : Nat) (hj : j < k) : (vcl F k i)[j]? = some (F (i + j)) := by
  induction k generalizing i j with
  | zero => omega
  | succ k ih =>
    cases j with
    | zero => simp [vcl]
    | succ j =>
      simp only [vcl, List.getElem?_cons_succ]
      rw [ih (i + 1) j (by omega), show i + (j + 1) = i + 1 + j by omega]
def updV (F : Nat → Value) (i : Nat) (v : Value) : Nat → Value := fun j => if j = i then v else F j
theorem vcl_set (F : Nat → Value) (k j : Nat) (v : Value) (hj : j < k) : (vcl F k 0).set j v = vcl (updV F j v) k 0 := by
  apply List.ext_getElem?
  intro n
  rw [List.getElem?_set]
  rcases Nat.lt_or_ge n k with hn | hn
  · rw [vcl_at _ k 0 n hn, Nat.zero_add]
    by_cases e : j = n
    · subst e
      rw [if_pos rfl, if_pos (by rw [vcl_length]; exact hj)]
      rw [vcl_at _ k 0 j hj, Nat.zero_add]
      simp [updV]
    · rw [if_neg e, vcl_at _ k 0 n hn, Nat.zero_add]
      have : n ≠ j := fun h => e h.symm
      simp [updV, this]
  · rw [List.getElem?_eq_none (by rw [vcl_length]; exact hn)]
    by_cases e : j = n
    · omega
    · rw [if_neg e, List.getElem?_eq_none (by rw [vcl_length]; exact hn)]
theorem vcl_congr {F G : Nat → Value} (k i : Nat) (h : ∀ j, j < k → F (i + j) = G (i + j)) : vcl F k i = vcl G k i := by
  induction k generalizing i with
  | zero => rfl
  | succ k ih =>
    have h0 := h 0 (by omega)
    simp only [Nat.add_zero] at h0
    simp only [vcl, h0]
    rw [ih (i + 1) (fun j hj => by have := h (j + 1) (by omega); rwa [show i + (j + 1) = i + 1 + j by omega] at this)]
theorem vcl_put {F G : Nat → Value} {k j : Nat} {v : Value} (hj : j < k) (h : ∀ i, i < k → G i = if i = j then v else F i) : (vcl F k 0).set j v = vcl G k 0 := by
  rw [vcl_set F k j v hj]
  refine vcl_congr k 0 fun i hi => ?_
  rw [Nat.zero_add, h i hi]
  rfl
theorem vcl_cell {w : World} {b k t : Nat} {F : Nat → Value} (h : w.heap[b]? = some (.cells (vcl F k 0).toArray t (0, 0))) (i : Nat) (hi : i < k) : w.cell? ⟨b, i, none⟩ = some (F i) := by
  rw [cell_of_row w b i _ _ _ h]
  have := vcl_at F k 0 i hi
  rw [Nat.zero_add] at this
  simpa using this
theorem vcl_heap {w : World} {b k t j : Nat} {F G : Nat → Value} {v : Value} (h : w.heap[b]? = some (.cells (vcl F k 0).toArray t (0, 0))) (hj : j < k) (hg : ∀ i, i < k → G i = if i = j then v else F i) : (w.setCell ⟨b, j, none⟩ v).heap[b]? = some (.cells (vcl G k 0).toArray t (0, 0)) := by
  rw [heap_setCell_same w b j _ t _ h, List.setIfInBounds_toArray, vcl_put hj hg]


/-- Flags by thread. -/
abbrev hbc (H : Nat → Bool) : Array Value := (vcl (fun i => .bool (H i)) 16 0).toArray
def updB (H : Nat → Bool) (t : Nat) (b : Bool) : Nat → Bool := fun j => if j = t then b else H j
theorem hb_nil : hbc (fun _ => false) = #[.bool false, .bool false, .bool false, .bool false, .bool false, .bool false, .bool false, .bool false, .bool false, .bool false, .bool false, .bool false, .bool false, .bool false, .bool false, .bool false] := rfl
theorem hb_set (H : Nat → Bool) (t : Nat) (ht : t < 16) (b : Bool) : (hbc H).setIfInBounds t (.bool b) = hbc (updB H t b) := by
  unfold hbc
  rw [List.setIfInBounds_toArray]
  congr 1
  refine vcl_put ht fun i hi => ?_
  unfold updB
  split <;> rfl
section
variable {w0 W : World} {qb : Nat} {M : Qs} {B : Bx}
/-- A cell of a box is set. -/
theorem Kq.setbox {hb t : Nat} {c : Array Value} (h : Kq w0 W qb M ((hb, c, t) :: B)) (hB : ∀ x ∈ B, x.2.2 ≠ t) (i : Nat) (v : Value) : Kq w0 (W.setCell ⟨hb, i, none⟩ v) qb M ((hb, c.setIfInBounds i v, t) :: B) := by
  obtain ⟨R, hs, hf, hk, hb'⟩ := h
  have h0 := hb' _ (List.mem_cons_self ..)
  have hk2 := Kp.setCell W ⟨hb, i, none⟩ v
  refine ⟨R, hs.keep hk2 (fun k hm e => h0.2.1 (by simp at e; rw [← e]; exact hm)), hf, hk.past hk2 (fun k hm hl => by simp at hm; have := h0.2.2; omega), fun x hx => ?_⟩
  rcases List.mem_cons.1 hx with rfl | hx
  · exact ⟨heap_setCell_same W hb i _ t v h0.1, h0.2⟩
  · have hx' := hb' x (List.mem_cons_of_mem _ hx)
    have hne : x.1 ∉ [hb] := fun e => by
      simp at e
      have e1 := hx'.1
      rw [e, h0.1] at e1
      simp at e1
      exact hB x hx e1.2.symm
    exact ⟨(hk2.block x.1 (lt_of_block hx'.1) hne).trans hx'.1, hx'.2⟩
/-- Boxes in another order. -/
theorem Kq.perm {B' : Bx} (h : Kq w0 W qb M B) (hB : ∀ x ∈ B', x ∈ B) : Kq w0 W qb M B' := by
  obtain ⟨R, hs, hf, hk, hb⟩ := h
  exact ⟨R, hs, hf, hk, fun x hx => hb x (hB x hx)⟩
theorem Kq.hold {hb : Nat} {H : Nat → Bool} (h : Kq w0 W qb M ((hb, hbc H, 43) :: B)) (hB : ∀ x ∈ B, x.2.2 ≠ 43) {t : Int} (ht : 0 ≤ t ∧ t < 16) (b : Bool) : Kq w0 (W.setCell ⟨hb, t.toNat, none⟩ (.bool b)) qb M ((hb, hbc (updB H t.toNat b), 43) :: B) := by
  have := h.setbox hB t.toNat (.bool b)
  rwa [hb_set H t.toNat (by omega) b] at this
theorem Kq.held {hb : Nat} {H : Nat → Bool} (h : Kq w0 W qb M B) (hm : (hb, hbc H, 43) ∈ B) {t : Int} (ht : 0 ≤ t ∧ t < 16) : W.cell? ⟨hb, t.toNat, none⟩ = some (.bool (H t.toNat)) := vcl_cell (h.box hm) t.toNat (by omega)
theorem Kq.free {x : Nat × Array Value × Nat} (h : Kq w0 W qb M B) (hm : x ∈ B) (i : Nat) : W.frozen? ⟨x.1, i, none⟩ = false := by
  have := h.box hm
  simp [World.frozen?, this]
end
/-- Who waits to send is held. -/
def Fh (s : List Dl) (H : Nat → Bool) : Prop := ∀ u : Nat, u < 16 → hasP s u = true → H u = true
theorem Fh.nil (H : Nat → Bool) : Fh [] H := fun u _ h => by simp [hasP] at h
theorem Fh.less {s s' : List Dl} {H : Nat → Bool} (h : Fh s H) (hs : ∀ u, hasP s' u = true → hasP s u = true) : Fh s' H := fun u hu hp => h u hu (hs _ hp)
theorem Fh.more {s s' : List Dl} {H : Nat → Bool} {t : Int} (ht : 0 ≤ t ∧ t < 16) (h : Fh s H) (hs : ∀ u, hasP s' u = true → u = t ∨ hasP s u = true) : Fh s' (updB H t.toNat true) := fun u hu hp => by
  unfold updB
  split
  · rfl
  · rename_i hn
    rcases hs _ hp with e | e
    · omega
    · exact h u hu e
theorem Fh.drop {s s' : List Dl} {H : Nat → Bool} {t : Int} (h0 : 0 ≤ t) (h : Fh s H) (hs : ∀ u, hasP s' u = true → hasP s u = true ∧ u ≠ t) : Fh s' (updB H t.toNat false) := fun u hu hp => by
  obtain ⟨h1, h2⟩ := hs _ hp
  unfold updB
  split
  · omega
  · exact h u hu h1
section
variable {M : Qs} {H : Nat → Bool} {t p : Int}
theorem mayT_rng (h : (mayT t && mayP p) = true) : 0 ≤ t ∧ t < 16 := by
  simp [mayT] at h
  omega
theorem once_send {m : Int × Int} (hk : Qok M) (hE : sendE M t p m = 0) (hF : Fh M.s H) : (0 ≤ t ∧ t < 16) ∧ ((∃ o, 0 ≤ o ∧ sendVV M t p m = passed true m o ∧ (sendMM M t p m).L.length = M.L.length ∧ Fh (sendMM M t p m).s H) ∨ (sendVV M t p m = passed true m (-1) ∧ (sendMM M t p m).L.length = M.L.length + 1 ∧ Fh (sendMM M t p m).s H) ∨ (sendVV M t p m = passed false m (-1) ∧ (sendMM M t p m).L.length = M.L.length ∧ Fh (sendMM M t p m).s (updB H t.toNat true))) := by
  obtain ⟨ha, -, hw⟩ := sendE_zero hE
  simp only [wAny, Bool.or_eq_false_iff] at hw
  have ht := mayT_rng ha
  refine ⟨ht, ?_⟩
  unfold sendVV sendMM
  rw [if_pos hE, if_pos hE]
  unfold sendV sendM
  by_cases hb : fstB M.r = true
  · rw [if_pos hb, if_pos hb]
    exact .inl ⟨_, (fst_in hk.r hb).1.1, rfl, rfl, hF⟩
  · rw [if_neg hb, if_neg hb]
    by_cases hf : M.full = true
    · rw [if_pos hf, if_pos hf]
      exact .inr (.inr ⟨rfl, rfl, hF.more ht fun u hu => (has_put ha hw.1 u).1 hu⟩)
    · rw [if_neg hf, if_neg hf]
      exact .inr (.inl ⟨rfl, putM_len _ _, hF⟩)
theorem send_not {m : Int × Int} (hE : sendE M t p m ≠ 0) : sendMM M t p m = M := by
  unfold sendMM
  rw [if_neg hE]
theorem sendMM_n {m : Int × Int} : (sendMM M t p m).n = M.n := by
  unfold sendMM sendM
  split
  · split
    · rfl
    · split <;> rfl
  · rfl
theorem once_rec (hk : Qok M) (hE : recE M t p = 0) (hF : Fh M.s H) : (0 ≤ t ∧ t < 16) ∧ ((M.L = [] ∧ recVV M t p = passed false (0, 0) (-1) ∧ (recMM M t p).L.length = M.L.length ∧ Fh (recMM M t p).s H) ∨ (∃ x Z, M.L = x :: Z ∧ recVV M t p = passed true x (-1) ∧ (recMM M t p).L.length + 1 = M.L.length ∧ Fh (recMM M t p).s H) ∨ (∃ x Z o, M.L = x :: Z ∧ (0 ≤ o ∧ o < 16) ∧ H o.toNat = true ∧ recVV M t p = passed true x o ∧ (recMM M t p).L.length = M.L.length ∧ Fh (recMM M t p).s (updB H o.toNat false))) := by
  obtain ⟨ha, hw⟩ := recE_zero hE
  have ht := mayT_rng ha
  refine ⟨ht, ?_⟩
  unfold recVV recMM
  rw [if_pos hE, if_pos hE]
  unfold recV recM
  cases hL : M.L with
  | nil => exact .inl ⟨rfl, rfl, rfl, hF⟩
  | cons x Z =>
    dsimp only
    unfold letT letM
    by_cases hb : fstB M.s = true
    · rw [if_pos hb]
      dsimp only
      rw [if_pos hb]
      have hi := fst_in hk.s hb
      refine .inr (.inr ⟨x, Z, _, rfl, hi.1, hF _ (by omega) (by rw [Int.toNat_of_nonneg hi.1.1]; exact hi.2), rfl, ?_, hF.drop hi.1.1 fun u hu => (has_take hb u).1 hu⟩)
      simp [putM_len]
    · rw [if_neg hb]
      dsimp only
      rw [if_neg hb]
      exact .inr (.inl ⟨x, Z, rfl, rfl, rfl, hF⟩)
theorem rec_not (hE : recE M t p ≠ 0) : recMM M t p = M := by
  unfold recMM
  rw [if_neg hE]
theorem recMM_n : (recMM M t p).n = M.n := by
  unfold recMM recM letM
  split
  · split
    · rfl
    · dsimp only
      split <;> rfl
  · rfl
theorem leM_L : (leM M t).L = M.L ∧ (leM M t).n = M.n := by
  unfold leM
  split <;> exact ⟨rfl, rfl⟩
theorem chM_L : (chM M t p).L = M.L ∧ (chM M t p).n = M.n := by
  unfold chM
  split <;> exact ⟨rfl, rfl⟩
theorem le_zero (hE : leE M t = 0) : mayT t = true := by
  unfold leE lvE at hE
  by_cases hm : mayT t = true
  · exact hm
  · simp [hm] at hE
theorem once_le (hE : leE M t = 0) (hF : Fh M.s H) : (0 ≤ t ∧ t < 16) ∧ Fh (leM M t).s (updB H t.toNat false) := by
  have hm := le_zero hE
  have ht : 0 ≤ t ∧ t < 16 := by simp [mayT] at hm; exact hm
  refine ⟨ht, hF.drop ht.1 fun u hu => ?_⟩
  unfold leM at hu
  by_cases hs : hasP M.s t = true
  · rw [if_pos hs] at hu
    exact (has_lv hm u).1 hu
  · rw [if_neg hs] at hu
    dsimp only at hu
    exact ⟨hu, fun e => hs (by rw [← e]; exact hu)⟩
theorem le_fh (hF : Fh M.s H) : Fh (leM M t).s H := hF.less fun u hu => by
  unfold leM at hu
  split at hu
  · unfold lvL at hu
    dsimp only at hu
    split at hu
    · exact ((has_delP _ _ _).1 hu).1
    · exact hu
  · exact hu
theorem ch_fh (hF : Fh M.s H) : Fh (chM M t p).s H := hF.less fun u hu => by
  unfold chM at hu
  split at hu
  · dsimp only at hu
    rwa [has_chg] at hu
  · exact hu
end
end Go.Proofs.Ytllkopekfanfaaa
