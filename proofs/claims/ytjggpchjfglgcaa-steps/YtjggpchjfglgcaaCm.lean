/- A cancellation in memory. -/
import Derived.BigQuiet
import Derived.Laws.ResultCell
import Derived.Deep.MidRow
import Derived.Deep.WholeRow
import Derived.Test.YtjggpchjfglgcaaMs
namespace Go.Proofs.Ytjggpchjfglgcaa
open Go.RowKit Go.Shelf Go.Lib
attribute [local go_sem] Oper.semAt_some

/-- A cancellation: asked, enabled, at once, unwinding; its cleanups, the lowest one first. -/
structure Cn where
  a : Bool
  e : Bool
  o : Bool
  u : Bool
  L : Ml
def newC : Cn := ⟨false, true, false, false, []⟩
def actsV (M : Cn) (p : Bool) : Bool := M.a && (M.e && (!M.u && (M.o || p)))
def mayPr (p : Int) : Bool := decide (0 ≤ p ∧ p < 32)
def pushE (M : Cn) (p : Int) : Int := if mayPr p = true then (if M.L.length = 8 then 5 else 0) else 2
def pushM (M : Cn) (p v : Int) : Cn := if mayPr p = true then (if M.L.length = 8 then M else { M with L := M.L ++ [(p, v)] }) else M
def popM (M : Cn) : Cn := { M with L := M.L.dropLast }
def popV (M : Cn) : Int × Int := M.L.getLast?.getD (0, 0)
def popE (M : Cn) : Int := if M.L = [] then 6 else 0
def unwE (M : Cn) : Int := if M.u = true then 7 else 0
def unwM (M : Cn) : Cn := { M with u := true }
def askM (M : Cn) : Cn := { M with a := true }
theorem pushM_len {M : Cn} (h : M.L.length ≤ 8) (p v : Int) : (pushM M p v).L.length ≤ 8 := by
  unfold pushM
  split
  · split
    · exact h
    · simp; omega
  · exact h
theorem popM_len {M : Cn} (h : M.L.length ≤ 8) : (popM M).L.length ≤ 8 := by unfold popM; simp; omega

/-! ### cells by a function -/
def vcl (F : Nat → Value) : Nat → Nat → List Value
  | 0, _ => []
  | k + 1, i => F i :: vcl F k (i + 1)
theorem vcl_length (F : Nat → Value) (k i : Nat) : (vcl F k i).length = k := by
  induction k generalizing i with
  | zero => rfl
  | succ k ih => simp [vcl, ih]
theorem vcl_at (F : Nat → Value) (k i j : Nat) (hj : j < k) : (vcl F k i)[j]? = some (F (i + j)) := by
  induction k generalizing i j with
  | zero => omega
  | succ k ih =>
    cases j with
    | zero => rfl
    | succ j =>
      have := ih (i + 1) j (by omega)
      simp only [vcl, List.getElem?_cons_succ, this]
      congr 2
      omega
theorem vcl_congr {F G : Nat → Value} (k i : Nat) (h : ∀ j, j < k → F (i + j) = G (i + j)) : vcl F k i = vcl G k i := by
  induction k generalizing i with
  | zero => rfl
  | succ k ih =>
    have h0 := h 0 (by omega)
    simp only [Nat.add_zero] at h0
    simp only [vcl, h0]
    rw [ih (i + 1) (fun j hj => by have := h (j + 1) (by omega); rwa [show i + (j + 1) = i + 1 + j by omega] at this)]
theorem vcl_put {F G : Nat → Value} {k j : Nat} {v : Value} (hj : j < k) (h : ∀ i, i < k → G i = if i = j then v else F i) : (vcl F k 0).set j v = vcl G k 0 := by
  apply List.ext_getElem?
  intro i
  rw [List.getElem?_set]
  by_cases hi : i < k
  · rw [vcl_at G k 0 i hi, Nat.zero_add, h i hi]
    by_cases e : j = i
    · rw [if_pos e, if_pos (by rw [vcl_length]; omega), if_pos e.symm]
    · rw [if_neg e, if_neg (fun q => e q.symm), vcl_at F k 0 i hi, Nat.zero_add]
  · rw [List.getElem?_eq_none (l := vcl G k 0) (by rw [vcl_length]; omega), if_neg (by omega), List.getElem?_eq_none (by rw [vcl_length]; omega)]
theorem vcl_cell {w : World} {b k t : Nat} {F : Nat → Value} (h : w.heap[b]? = some (.cells (vcl F k 0).toArray t (0, 0))) (i : Nat) (hi : i < k) : w.cell? ⟨b, i, none⟩ = some (F i) := by
  rw [cell_of_row w b i _ _ _ h]
  have := vcl_at F k 0 i hi
  rw [Nat.zero_add] at this
  simpa using this
theorem vcl_heap {w : World} {b k t j : Nat} {F G : Nat → Value} {v : Value} (h : w.heap[b]? = some (.cells (vcl F k 0).toArray t (0, 0))) (hj : j < k) (hg : ∀ i, i < k → G i = if i = j then v else F i) : (w.setCell ⟨b, j, none⟩ v).heap[b]? = some (.cells (vcl G k 0).toArray t (0, 0)) := by
  rw [heap_setCell_same w b j _ t _ h, List.setIfInBounds_toArray, vcl_put hj hg]
theorem vcl_mem {F : Nat → Value} {v : Value} : ∀ (k i : Nat), v ∈ vcl F k i → ∃ j, v = F j
  | 0, _, h => by simp [vcl] at h
  | k + 1, i, h => by
    simp only [vcl, List.mem_cons] at h
    rcases h with h | h
    · exact ⟨i, h⟩
    · exact vcl_mem k (i + 1) h

/-! ### a cancellation's cells -/
def atL (L : Ml) (i : Nat) : Int × Int := L[i]?.getD (0, 0)
def clV (L : Ml) (j : Nat) : Value := if j % 2 = 0 then .int .i64 (atL L (j / 2)).1 else .int .i64 (atL L (j / 2)).2
/-- The cells, with a count of its own (while one is pushed or popped). -/
def canN (M : Cn) (n : Nat) : Nat → Value := fun i => if i = 0 then .bool true else if i = 1 then .bool M.a else if i = 2 then .bool M.e else if i = 3 then .bool M.o else if i = 4 then .bool M.u else if i = 5 then .int .i64 (n : Nat) else clV M.L (i - 6)
/-- A cancellation at cb, which counts n. -/
def Cw (w : World) (cb : Nat) (M : Cn) (n : Nat) : Prop := w.heap[cb]? = some (.cells (vcl (canN M n) 22 0).toArray 59 (0, 0))
/-- A cancellation at cb. -/
def Cc (w : World) (cb : Nat) (M : Cn) : Prop := Cw w cb M M.L.length
section
variable {w w' : World} {cb n : Nat} {M : Cn}
theorem Cw.lt (h : Cw w cb M n) : cb < w.heap.size := lt_of_block h
theorem Cw.keep (h : Cw w cb M n) {rws : List Nat} (hk : Kp w w' rws) (hr : cb ∉ rws) : Cw w' cb M n := (hk.block cb (lt_of_block h) hr).trans h
theorem Cw.free (h : Cw w cb M n) (i : Nat) : w.frozen? ⟨cb, i, none⟩ = false := by unfold Cw at h; simp [World.frozen?, h]
theorem Cw.cell (h : Cw w cb M n) (i : Nat) (hi : i < 22) : w.cell? ⟨cb, i, none⟩ = some (canN M n i) := vcl_cell h i hi
theorem Cw.c0 (h : Cw w cb M n) : w.cell? ⟨cb, 0, none⟩ = some (.bool true) := h.cell 0 (by omega)
theorem Cw.c1 (h : Cw w cb M n) : w.cell? ⟨cb, 1, none⟩ = some (.bool M.a) := h.cell 1 (by omega)
theorem Cw.c2 (h : Cw w cb M n) : w.cell? ⟨cb, 2, none⟩ = some (.bool M.e) := h.cell 2 (by omega)
theorem Cw.c3 (h : Cw w cb M n) : w.cell? ⟨cb, 3, none⟩ = some (.bool M.o) := h.cell 3 (by omega)
theorem Cw.c4 (h : Cw w cb M n) : w.cell? ⟨cb, 4, none⟩ = some (.bool M.u) := h.cell 4 (by omega)
theorem Cw.c5 (h : Cw w cb M n) : w.cell? ⟨cb, 5, none⟩ = some (.int .i64 (n : Nat)) := h.cell 5 (by omega)
theorem Cw.p0 (h : Cw w cb M n) {i : Nat} (hi : i < 8) : w.cell? ⟨cb, 6 + i * 2, none⟩ = some (.int .i64 (atL M.L i).1) := by
  rw [h.cell _ (by omega)]
  unfold canN clV
  rw [if_neg (by omega), if_neg (by omega), if_neg (by omega), if_neg (by omega), if_neg (by omega), if_neg (by omega), if_pos (by omega), show (6 + i * 2 - 6) / 2 = i by omega]
theorem Cw.p1 (h : Cw w cb M n) {i : Nat} (hi : i < 8) : w.cell? ⟨cb, 6 + i * 2 + 1, none⟩ = some (.int .i64 (atL M.L i).2) := by
  rw [h.cell _ (by omega)]
  unfold canN clV
  rw [if_neg (by omega), if_neg (by omega), if_neg (by omega), if_neg (by omega), if_neg (by omega), if_neg (by omega), if_neg (by omega), show (6 + i * 2 + 1 - 6) / 2 = i by omega]
theorem Cw.s1 (h : Cw w cb M n) (b : Bool) : Cw (w.setCell ⟨cb, 1, none⟩ (.bool b)) cb { M with a := b } n := by
  refine vcl_heap h (by omega) fun i hi => ?_
  unfold canN
  by_cases e : i = 1
  · subst e; rfl
  · rw [if_neg e]; simp only [if_neg e]
theorem Cw.s2 (h : Cw w cb M n) (b : Bool) : Cw (w.setCell ⟨cb, 2, none⟩ (.bool b)) cb { M with e := b } n := by
  refine vcl_heap h (by omega) fun i hi => ?_
  unfold canN
  by_cases e : i = 2
  · subst e; rfl
  · rw [if_neg e]; simp only [if_neg e]
theorem Cw.s3 (h : Cw w cb M n) (b : Bool) : Cw (w.setCell ⟨cb, 3, none⟩ (.bool b)) cb { M with o := b } n := by
  refine vcl_heap h (by omega) fun i hi => ?_
  unfold canN
  by_cases e : i = 3
  · subst e; rfl
  · rw [if_neg e]; simp only [if_neg e]
theorem Cw.s4 (h : Cw w cb M n) (b : Bool) : Cw (w.setCell ⟨cb, 4, none⟩ (.bool b)) cb { M with u := b } n := by
  refine vcl_heap h (by omega) fun i hi => ?_
  unfold canN
  by_cases e : i = 4
  · subst e; rfl
  · rw [if_neg e]; simp only [if_neg e]
theorem Cw.s5 (h : Cw w cb M n) (m : Nat) : Cw (w.setCell ⟨cb, 5, none⟩ (.int .i64 (m : Nat))) cb M m := by
  refine vcl_heap h (by omega) fun i hi => ?_
  unfold canN
  by_cases e : i = 5
  · subst e; rfl
  · rw [if_neg e]; simp only [if_neg e]
/-- A place gets what is in x. -/
theorem Cw.put (h : Cw w cb M n) {i : Nat} (hi : i < 8) {x : Int × Int} {L : Ml} (hL : ∀ j, j < 8 → atL L j = if j = i then x else atL M.L j) : Cw ((w.setCell ⟨cb, 6 + i * 2, none⟩ (.int .i64 x.1)).setCell ⟨cb, 6 + i * 2 + 1, none⟩ (.int .i64 x.2)) cb { M with L := L } n := by
  have h1 : (w.setCell ⟨cb, 6 + i * 2, none⟩ (.int .i64 x.1)).heap[cb]? = some (.cells (vcl (fun k => if k = 6 + i * 2 then .int .i64 x.1 else canN M n k) 22 0).toArray 59 (0, 0)) := vcl_heap h (by omega) fun k hk => rfl
  refine vcl_heap h1 (by omega) fun k hk => ?_
  by_cases e1 : k = 6 + i * 2 + 1
  · rw [if_pos e1]
    unfold canN clV
    rw [if_neg (by omega), if_neg (by omega), if_neg (by omega), if_neg (by omega), if_neg (by omega), if_neg (by omega), if_neg (by omega), show (k - 6) / 2 = i by omega]
    simp only [hL i hi, if_true]
  · rw [if_neg e1]
    by_cases e0 : k = 6 + i * 2
    · rw [if_pos e0]
      unfold canN clV
      rw [if_neg (by omega), if_neg (by omega), if_neg (by omega), if_neg (by omega), if_neg (by omega), if_neg (by omega), if_pos (by omega), show (k - 6) / 2 = i by omega]
      simp only [hL i hi, if_true]
    · rw [if_neg e0]
      unfold canN
      by_cases q : k < 6
      · have hq : k = 0 ∨ k = 1 ∨ k = 2 ∨ k = 3 ∨ k = 4 ∨ k = 5 := by omega
        rcases hq with rfl | rfl | rfl | rfl | rfl | rfl <;> rfl
      · rw [if_neg (by omega), if_neg (by omega), if_neg (by omega), if_neg (by omega), if_neg (by omega), if_neg (by omega), if_neg (by omega), if_neg (by omega), if_neg (by omega), if_neg (by omega), if_neg (by omega), if_neg (by omega)]
        unfold clV
        have e : ¬ (k - 6) / 2 = i := by omega
        simp only [hL ((k - 6) / 2) (by omega), if_neg e]
end
theorem atL_append (L : Ml) (x : Int × Int) (j : Nat) : atL (L ++ [x]) j = if j = L.length then x else atL L j := by
  unfold atL
  by_cases h : j < L.length
  · rw [List.getElem?_append_left h, if_neg (by omega)]
  · rw [List.getElem?_append_right (by omega)]
    by_cases e : j = L.length
    · rw [if_pos e, e]; simp
    · rw [if_neg e, List.getElem?_eq_none (by simp; omega), List.getElem?_eq_none (by omega)]
theorem atL_out {L : Ml} {j : Nat} (h : L.length ≤ j) : atL L j = (0, 0) := by
  unfold atL
  rw [List.getElem?_eq_none h]
  rfl
theorem atL_drop (L : Ml) (j : Nat) : atL L.dropLast j = if j = L.length - 1 then (0, 0) else atL L j := by
  rcases List.eq_nil_or_concat L with rfl | ⟨l, x, rfl⟩
  · simp [atL]
  · rw [List.concat_eq_append, List.dropLast_concat, atL_append]
    simp only [List.length_append, List.length_singleton, Nat.add_sub_cancel]
    by_cases e : j = l.length
    · rw [if_pos e, atL_out (by omega)]
    · rw [if_neg e, if_neg e]
theorem atL_last (L : Ml) : atL L (L.length - 1) = L.getLast?.getD (0, 0) := by
  rcases List.eq_nil_or_concat L with rfl | ⟨l, x, rfl⟩
  · rfl
  · rw [List.concat_eq_append, atL_append]; simp
theorem Cc.same {w w' : World} {cb : Nat} {M : Cn} (h : Cc w cb M) (hk : Kp w w' []) : Cc w' cb M := Cw.keep h hk (by simp)
theorem Cc.cw {w : World} {cb : Nat} {M : Cn} (h : Cc w cb M) : Cw w cb M M.L.length := h
/-- None: nil, or a zero one. -/
def Zc (w : World) (p : Option Addr) : Prop := p = none ∨ ∃ zb c, p = some ⟨zb, 0, none⟩ ∧ w.heap[zb]? = some (.cells c 59 (0, 0)) ∧ c[0]? = some (.bool false)
theorem Zc.keep {w w' : World} {p : Option Addr} (h : Zc w p) (hk : Kp w w' []) : Zc w' p := by
  rcases h with h | ⟨zb, c, h1, h2, h3⟩
  · exact .inl h
  · exact .inr ⟨zb, c, h1, (hk.block zb (lt_of_block h2) (by simp)).trans h2, h3⟩

/-! ### looking -/
set_option maxRecDepth 100000 in
theorem cz_no {w : World} {cb n : Nat} {M : Cn} (h : Cw w cb M n) : Calls Try.prog 35 #[.pointer (some ⟨cb, 0, none⟩)] w fun e w' => e = .returned (.bool false) ∧ w' = w := by
  have c0 := h.c0
  clear h
  go_enter Try.func35, Try.ntmps35
  go_wp2_with fail
  go_ret
  exact ⟨rfl, rfl⟩
set_option maxRecDepth 100000 in
theorem cz_yes (w : World) (p : Option Addr) (h : Zc w p) : Calls Try.prog 35 #[.pointer p] w fun e w' => e = .returned (.bool true) ∧ w' = w := by
  rcases h with rfl | ⟨zb, c, rfl, h2, h3⟩
  · go_enter Try.func35, Try.ntmps35
    go_wp2_with fail
    go_ret
    exact ⟨rfl, rfl⟩
  · have c0 : w.cell? ⟨zb, 0, none⟩ = some (.bool false) := by simp [World.cell?, h2, h3]
    clear h2 h3
    go_enter Try.func35, Try.ntmps35
    go_wp2_with fail
    go_ret
    exact ⟨rfl, rfl⟩
set_option maxRecDepth 100000 in
theorem mayP_any (w : World) (c : Int) : Calls Try.prog 42 #[.int .i64 c] w fun e w' => e = .returned (.bool (mayPr c)) ∧ w' = w := by
  obtain ⟨B, hB⟩ : ∃ B, mayPr c = B := ⟨_, rfl⟩
  rw [hB]
  unfold mayPr at hB
  have HB := hid hB
  clear hB
  by_cases h0 : 0 ≤ c
  · by_cases h1 : c < 32
    · have e : B = true := by rw [← HB.out]; simp [h0, h1]
      subst e
      go_enter Try.func42, Try.ntmps42
      go_wp2_with fail
      go_ret
      exact ⟨rfl, rfl⟩
    · have e : B = false := by rw [← HB.out]; simp; omega
      have hd : decide (c < 32) = false := by simp; omega
      subst e
      go_enter Try.func42, Try.ntmps42
      go_wp2_with fail
      go_ret
      exact ⟨rfl, rfl⟩
  · have e : B = false := by rw [← HB.out]; simp; omega
    have hd : decide (0 ≤ c) = false := by simp; omega
    subst e
    go_enter Try.func42, Try.ntmps42
    go_wp2_with fail
    go_ret
    exact ⟨rfl, rfl⟩
set_option maxRecDepth 100000 in
theorem num_any (w : World) (e : Int) : Calls Try.prog 17 #[.int .i64 e] w fun x w' => x = .returned (.int .i64 e) ∧ w' = w := by
  go_enter Try.func17, Try.ntmps17
  go_wp2_with fail
  go_ret
  exact ⟨rfl, rfl⟩
end Go.Proofs.Ytjggpchjfglgcaa
