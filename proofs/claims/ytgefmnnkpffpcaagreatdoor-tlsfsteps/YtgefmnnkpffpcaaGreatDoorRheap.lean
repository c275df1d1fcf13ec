/- The reference's heap in memory. -/
import Derived.Test.YtgefmnnkpffpcaaGreatDoorCnumsJ
import Derived.Deep.RegionHeldLaw
import Derived.Deep.RegionLaw
namespace Go.Proofs.YtgefmnnkpffpcaaGreatDoor
open Go.RowKit Go.Maps

def vcl (G : Nat → Value) : Nat → Nat → List Value
  | 0, _ => []
  | k + 1, i => G i :: vcl G k (i + 1)
theorem vcl_length (G : Nat → Value) (k i : Nat) : (vcl G k i).length = k := by
  induction k generalizing i with
  | zero => rfl
  | succ k ih => simp [vcl, ih]
theorem vcl_at (G : Nat → Value) (k i j : Nat) (hj : j < k) : (vcl G k i)[j]? = some (G (i + j)) := by
  induction k generalizing i j with
  | zero => omega
  | succ k ih =>
    cases j with
    | zero => simp [vcl]
    | succ j =>
      simp only [vcl, List.getElem?_cons_succ]
      rw [ih (i + 1) j (by omega), show i + (j + 1) = i + 1 + j by omega]
def updV (G : Nat → Value) (i : Nat) (v : Value) : Nat → Value := fun j => if j = i then v else G j
def updL (F : Nat → List Int) (i : Nat) (l : List Int) : Nat → List Int := fun j => if j = i then l else F j
theorem vcl_set (G : Nat → Value) (k j : Nat) (v : Value) (hj : j < k) : (vcl G k 0).set j v = vcl (updV G j v) k 0 := by
  apply List.ext_getElem?
  intro n
  rw [List.getElem?_set]
  rcases Nat.lt_or_ge n k with hn | hn
  · rw [vcl_at _ k 0 n hn, Nat.zero_add]
    by_cases e : j = n
    · subst e
      rw [if_pos rfl, if_pos (by rw [vcl_length]; exact hj)]
      rw [vcl_at _ k 0 j hj, Nat.zero_add]
      simp [updV]
    · rw [if_neg e, vcl_at _ k 0 n hn, Nat.zero_add]
      have : n ≠ j := fun h => e h.symm
      simp [updV, this]
  · rw [List.getElem?_eq_none (by rw [vcl_length]; exact hn)]
    by_cases e : j = n
    · omega
    · rw [if_neg e, List.getElem?_eq_none (by rw [vcl_length]; exact hn)]
/-- The reference's heap at block hb: its blocks B (the slice V), its lists F (the slices G), its bytes' slice mv. -/
structure Rh (w : World) (hb : Nat) (V : Value) (G : Nat → Value) (mv : Value) (B : List Bl) (F : Nat → List Int) : Prop where
  blk : w.heap[hb]? = some (.cells (V :: (vcl G 32 0 ++ [mv])).toArray 42 (0, 0))
  row : Br w 0 V B
  lst : ∀ c, c < 32 → Is w 0 (G c) (F c)
section
variable {w w' : World} {hb : Nat} {V mv : Value} {G : Nat → Value} {B : List Bl} {F : Nat → List Int}
theorem Rh.b (h : Rh w hb V G mv B F) : w.cell? ⟨hb, 0, none⟩ = some V := by
  simp only [World.cell?, h.blk, Option.isSome_none, Bool.false_eq_true, if_false]
  rfl
theorem Rh.l (h : Rh w hb V G mv B F) {c : Nat} (hc : c < 32) : w.cell? ⟨hb, 1 + c, none⟩ = some (G c) := by
  rw [Nat.add_comm]
  have := vcl_at G 32 0 c hc
  rw [Nat.zero_add] at this
  simp only [World.cell?, h.blk, Option.isSome_none, Bool.false_eq_true, if_false]
  rw [List.getElem?_toArray, List.getElem?_cons_succ, List.getElem?_append_left (by rw [vcl_length]; exact hc), this]
theorem Rh.m (h : Rh w hb V G mv B F) : w.cell? ⟨hb, 33, none⟩ = some mv := by
  simp only [World.cell?, h.blk, Option.isSome_none, Bool.false_eq_true, if_false]
  rw [List.getElem?_toArray, List.getElem?_cons_succ, List.getElem?_append_right (by rw [vcl_length]; exact Nat.le_refl _), vcl_length]
  rfl
theorem Rh.free (h : Rh w hb V G mv B F) (s : Nat) : w.frozen? ⟨hb, s, none⟩ = false := by simp [World.frozen?, h.blk]
theorem Rh.lt (h : Rh w hb V G mv B F) : hb < w.heap.size := lt_of_block h.blk
theorem Rh.rowne (h : Rh w hb V G mv B F) {g : Nat} (hg : V.ownBlock = some g) : g < w.heap.size ∧ g ≠ hb := by
  obtain ⟨-, cur, hc⟩ := owns_block h.row hg
  exact ⟨lt_of_block hc, fun e => block_ne h.blk hc (by decide) e.symm⟩
theorem Rh.lne (h : Rh w hb V G mv B F) {c : Nat} (hc : c < 32) {g : Nat} (hg : (G c).ownBlock = some g) : g < w.heap.size ∧ g ∉ hb :: V.ownBlock.toList := by
  obtain ⟨-, cur, hcur⟩ := owns_block (h.lst c hc) hg
  refine ⟨lt_of_block hcur, fun hm => ?_⟩
  rcases List.mem_cons.1 hm with rfl | hm
  · exact block_ne h.blk hcur (by decide) rfl
  · obtain ⟨-, cur', hc'⟩ := owns_block h.row (by simpa using hm)
    exact block_ne hc' hcur (by decide) rfl
theorem Rh.keep (h : Rh w hb V G mv B F) {rws : List Nat} (hk : Kp w w' rws) (h1 : hb ∉ rws) (h2 : ∀ g, V.ownBlock = some g → g ∉ rws) (h3 : ∀ c g, c < 32 → (G c).ownBlock = some g → g ∉ rws) : Rh w' hb V G mv B F :=
  ⟨(hk.block hb h.lt h1).trans h.blk, h.row.kp hk h2, fun c hc => (h.lst c hc).kp hk fun g hg => h3 c g hc hg⟩
theorem Rh.same (h : Rh w hb V G mv B F) (hk : Kp w w' []) : Rh w' hb V G mv B F := h.keep hk (by simp) (by simp) (by simp)
/-- Slices behind a call: the same ones, or new. -/
def Nw (w : World) (V V' : Value) (G G' : Nat → Value) : Prop := (∀ g, V'.ownBlock = some g → V.ownBlock = some g ∨ w.heap.size ≤ g) ∧ ∀ c g, c < 32 → (G' c).ownBlock = some g → (G c).ownBlock = some g ∨ w.heap.size ≤ g
theorem Nw.refl : Nw w V V G G := ⟨fun _ q => .inl q, fun _ _ _ q => .inl q⟩
theorem Nw.row {V' : Value} (h : ∀ g, V'.ownBlock = some g → w.heap.size ≤ g) : Nw w V V' G G := ⟨fun g q => .inr (h g q), fun _ _ _ q => .inl q⟩
theorem Nw.list {c : Nat} {v : Value} (h : ∀ g, v.ownBlock = some g → w.heap.size ≤ g) : Nw w V V G (updV G c v) := ⟨fun _ q => .inl q, fun d g _ q => by
  unfold updV at q
  split at q
  · exact .inr (h g q)
  · exact .inl q⟩
theorem Nw.trans {w1 : World} {V1 V2 : Value} {G1 G2 : Nat → Value} (hs : w.heap.size ≤ w1.heap.size) (h : Nw w V V1 G G1) (h' : Nw w1 V1 V2 G1 G2) : Nw w V V2 G G2 := by
  refine ⟨fun g q => ?_, fun c g hc q => ?_⟩
  · rcases h'.1 g q with e | e
    · exact h.1 g e
    · exact .inr (Nat.le_trans hs e)
  · rcases h'.2 c g hc q with e | e
    · exact h.2 c g hc e
    · exact .inr (Nat.le_trans hs e)
/-- What a call leaves of it. -/
def Rg (w w' : World) (hb : Nat) (V : Value) (G : Nat → Value) (mv : Value) (B : List Bl) (F : Nat → List Int) : Prop :=
  ∃ V' G', Rh w' hb V' G' mv B F ∧ Kp w w' (hb :: V.ownBlock.toList) ∧ Nw w V V' G G'
theorem Rg.refl (h : Rh w hb V G mv B F) : Rg w w hb V G mv B F := ⟨V, G, h, Kp.refl _ _, Nw.refl⟩
theorem Rg.past {w1 w2 : World} {V1 : Value} {G1 : Nat → Value} {B2 : List Bl} {F2 : Nat → List Int} (hk : Kp w w1 (hb :: V.ownBlock.toList)) (hv : Nw w V V1 G G1) (h : Rg w1 w2 hb V1 G1 mv B2 F2) : Rg w w2 hb V G mv B2 F2 := by
  obtain ⟨V2, G2, a, b, c⟩ := h
  refine ⟨V2, G2, a, hk.past b ?_, hv.trans hk.size c⟩
  intro k hm hl
  rcases List.mem_cons.1 hm with rfl | hm
  · simp
  · rcases hv.1 k (by simpa using hm) with q | q
    · simp [q]
    · omega
/-- A list is laid down anew. -/
theorem Rh.put (h : Rh w hb V G mv B F) {w1 : World} (hk : Kp w w1 []) {c : Nat} (hc : c < 32) {v : Value} {l : List Int} (hd : Is w1 0 v l) : Rh (w1.setCell ⟨hb, 1 + c, none⟩ v) hb V (updV G c v) mv B (updL F c l) := by
  rw [Nat.add_comm]
  have h1 := h.same hk
  have hset := Kp.setCell w1 ⟨hb, c + 1, none⟩ v
  refine ⟨?_, h1.row.kp hset fun g hg => ?_, fun t ht => ?_⟩
  · rw [heap_setCell_same w1 hb (c + 1) _ 42 _ h1.blk, List.setIfInBounds_toArray, List.set_cons_succ, List.set_append_left _ _ (by rw [vcl_length]; exact hc), vcl_set G 32 c v hc]
  · have := (h1.rowne hg).2
    simpa using this
  · by_cases e : t = c
    · subst e
      simp only [updV, updL, if_true]
      exact hd.kp hset fun g hg => by
        obtain ⟨-, cur, hcur⟩ := owns_block hd hg
        have := block_ne h1.blk hcur (by decide)
        simp; exact fun e => this e.symm
    · simp only [updV, updL, if_neg e]
      refine (h1.lst t ht).kp hset fun g hg hm => (h1.lne ht hg).2 ?_
      simp at hm
      simp [hm]
/-- The blocks' row changes in place. -/
theorem Rh.inrow {g m cap : Nat} (h : Rh w hb (.slice (some ⟨g, 0, none⟩) m cap) G mv B F) {i : Nat} {u : Value} {B' : List Bl} (hd : Br (w.setCell ⟨g, i, none⟩ u) 0 (.slice (some ⟨g, 0, none⟩) m cap) B') : Rh (w.setCell ⟨g, i, none⟩ u) hb (.slice (some ⟨g, 0, none⟩) m cap) G mv B' F := by
  have hset := Kp.setCell w ⟨g, i, none⟩ u
  have hne := (h.rowne (g := g) rfl).2
  refine ⟨(hset.block hb h.lt (by simp; exact fun e => hne e.symm)).trans h.blk, hd, fun c hc => (h.lst c hc).kp hset fun k hk hm => (h.lne hc hk).2 ?_⟩
  simp at hm
  simp [hm, Value.ownBlock]
/-- The blocks' slice is laid down anew. -/
theorem Rh.newrow (h : Rh w hb V G mv B F) {w1 : World} (hk : Kp w w1 []) {v : Value} {l : List Bl} (hd : Br w1 0 v l) : Rh (w1.setCell ⟨hb, 0, none⟩ v) hb v G mv l F := by
  have h1 := h.same hk
  have hset := Kp.setCell w1 ⟨hb, 0, none⟩ v
  refine ⟨?_, hd.kp hset fun g hg => ?_, fun t ht => (h1.lst t ht).kp hset fun g hg hm => (h1.lne ht hg).2 ?_⟩
  · rw [heap_setCell_same w1 hb 0 _ 42 _ h1.blk, List.setIfInBounds_toArray, List.set_cons_zero]
  · obtain ⟨-, cur, hcur⟩ := owns_block hd hg
    have := block_ne h1.blk hcur (by decide)
    simp; exact fun e => this e.symm
  · simp at hm
    simp [hm]
end
theorem updL_ad (F : Nat → List Int) (c : Nat) (a : Int) : updL F c (a :: F c) = adF F c a := rfl
theorem updL_rm (F : Nat → List Int) (c : Nat) (a : Int) : updL F c ((F c).filter fun x => x != a) = rmF F c a := rfl
/-- The number of the block that begins there. -/
def Fd (B : List Bl) (t r : Int) : Prop := (r = -1 ∧ ∀ j, j < B.length → B[j]!.1 ≠ t) ∨ ∃ i : Nat, r = i ∧ i < B.length ∧ B[i]!.1 = t
set_option maxRecDepth 100000 in
theorem rnumber_any (w : World) (hb : Nat) (V mv : Value) (G : Nat → Value) (B : List Bl) (F : Nat → List Int) (t : Int) (h : Rh w hb V G mv B F) (hl : B.length ≤ 100000) : Calls Tryz.prog 113 #[.pointer (some ⟨hb, 0, none⟩), .int .i64 t] w fun e w' => ∃ r, e = .returned (.int .i64 r) ∧ Fd B t r ∧ w' = w := by
  have cc := h.b
  have hd := h.row
  obtain ⟨ao, cap, rfl⟩ := hd.slice
  obtain ⟨N, hN⟩ : ∃ N, B.length = N := ⟨_, rfl⟩
  rw [hN] at cc hl
  have HD := hid hd
  rw [hN] at HD
  have HN := hid hN
  clear h hd hN
  go_enter Tryz.func113, Tryz.ntmps113
  go_wp2_with fail
  go_loopw [5] (fun vi wr => ∃ i : Nat, i ≤ N ∧ vi = .int .i64 i ∧ wr = w ∧ Hid (∀ j, j < i → B[j]!.1 ≠ t)) (fun vi _ => N - (intOf vi).toNat)
  case atStart => exact ⟨0, by omega, rfl, rfl, hid (fun j hj => by omega)⟩
  case round =>
    obtain ⟨i, hi, rfl, rfl, hA⟩ := hrel
    by_cases hlt : i < N
    · have hltI : (i : Int) < N := by omega
      have hil : i < B.length := by have := HN.out; omega
      obtain ⟨x1, x2, f, hx⟩ : ∃ x1 x2 f, B[i]! = (x1, x2, f) := ⟨B[i]!.1, B[i]!.2.1, B[i]!.2.2, rfl⟩
      obtain ⟨g, rfl, c1, -, -, -, -, -⟩ := HD.out.at hil hx
      by_cases he : x1 = t
      · have heI : (x1 == t) = true := by simp [he]
        have HF := hid (show Fd B t (i : Int) from .inr ⟨i, rfl, hil, by rw [hx]; exact he⟩)
        clear he hx hA
        go_wp2
        go_ret
        exact ⟨_, rfl, HF.out, rfl⟩
      · have heI : (x1 == t) = false := by simp [he]
        have HA2 := hid (show ∀ j, j < i + 1 → B[j]!.1 ≠ t from fun j hj => by
          by_cases q : j < i
          · exact hA.out j q
          · rw [show j = i by omega, hx]; exact he)
        clear he hx hA
        go_wp2
        go_roundw
        case rel => exact ⟨i + 1, by omega, by simp, trivial, HA2⟩
        case measure => simp [intOf]; omega
    · have hltI : ¬ (i : Int) < N := by omega
      have HF := hid (show Fd B t (-1) from .inl ⟨rfl, fun j hj => hA.out j (by have := HN.out; omega)⟩)
      clear hA
      go_wp2
      go_ret
      exact ⟨_, rfl, HF.out, rfl⟩
end Go.Proofs.YtgefmnnkpffpcaaGreatDoor
