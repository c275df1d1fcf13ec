/- Cleanups and flags compared whole. -/
import Derived.ChangeKeysEq
import Derived.Laws.StructEq
import Derived.Test.YtjggpchjfglgcaaCp
namespace Go.Proofs.Ytjggpchjfglgcaa
open Go.RowKit Go.Shelf Go.Lib
attribute [local go_sem] Oper.semAt_some

theorem eqF_step {P : Program} {w : World} {d : Nat} {xs ys : Array Value} {f : Field} {fs : List Field} {a b : Value} {r : Bool} (hn : f.name ≠ "_") (h1 : (part f.type xs f.offset).run P w = .ok a w) (h2 : (part f.type ys f.offset).run P w = .ok b w) (h3 : (Op.equalIn d f.type a b).run P w = .ok r w) :
    (Op.eqFields d xs ys (f :: fs)).run P w = if r = true then (Op.eqFields d xs ys fs).run P w else .ok false w := by
  simp only [Op.eqFields, hn, ne_eq, not_false_eq_true, if_true, Sem.run_bind, h1, h2, h3, Result.andThen_ok]
  cases r <;> simp
theorem eqF_nil {P : Program} {w : World} {d : Nat} {xs ys : Array Value} : (Op.eqFields d xs ys []).run P w = .ok true w := by simp [Op.eqFields]
def clA (x : Int × Int) : Array Value := #[.int .i64 x.1, .int .i64 x.2]
set_option maxRecDepth 100000 in
theorem fields30 : ∃ f0 f1 : Field, (Try.prog.fieldsOf 30).toList = [f0, f1] ∧ (f0.name ≠ "_" ∧ f0.type = 3 ∧ f0.offset = 0) ∧ (f1.name ≠ "_" ∧ f1.type = 2 ∧ f1.offset = 1) :=
  ⟨_, _, rfl, ⟨by decide, rfl, rfl⟩, ⟨by decide, rfl, rfl⟩⟩
set_option maxRecDepth 100000 in
theorem cl_eq (d : Nat) (x y : Int × Int) (w : World) : (Op.equalIn (d + 2) 30 (.agg (clA x)) (.agg (clA y))).run Try.prog w = .ok (decide (x = y)) w := by
  rw [run_equalIn_struct w (d + 1) 30 _ _ (by kernel_rfl) (by kernel_rfl)]
  obtain ⟨f0, f1, e, ⟨a0, b0, c0⟩, ⟨a1, b1, c1⟩⟩ := fields30
  have h3 : (isAgg 3).run Try.prog w = .ok false w := by kernel_rfl
  have h2 : (isAgg 2).run Try.prog w = .ok false w := by kernel_rfl
  have p0 : ∀ x : Int × Int, (part 3 (clA x) 0).run Try.prog w = .ok (.int .i64 x.1) w := fun x => by simp [part, clA, Sem.run_bind, h3]
  have p1 : ∀ x : Int × Int, (part 2 (clA x) 1).run Try.prog w = .ok (.int .i64 x.2) w := fun x => by simp [part, clA, Sem.run_bind, h2]
  have q3 : ∀ x y : Int, (Op.equalIn (d + 1) 3 (.int .i64 x) (.int .i64 y)).run Try.prog w = .ok (decide (x = y)) w := fun x y => by
    have e : (x == y) = decide (x = y) := by rw [Bool.eq_iff_iff]; simp
    rw [← e]
    exact run_equalIn_int w d 3 .i64 .i64 _ _ Try.underlying3
  have q2 : ∀ x y : Int, (Op.equalIn (d + 1) 2 (.int .i64 x) (.int .i64 y)).run Try.prog w = .ok (decide (x = y)) w := fun x y => by
    have e : (x == y) = decide (x = y) := by rw [Bool.eq_iff_iff]; simp
    rw [← e]
    exact run_equalIn_int w d 2 .i64 .i64 _ _ Try.underlying2
  rw [e, eqF_step (d := d + 1) a0 (by rw [b0, c0]; exact p0 x) (by rw [b0, c0]; exact p0 y) (by rw [b0]; exact q3 _ _),
    eqF_step (d := d + 1) a1 (by rw [b1, c1]; exact p1 x) (by rw [b1, c1]; exact p1 y) (by rw [b1]; exact q2 _ _), eqF_nil]
  have hh : decide (x = y) = (decide (x.1 = y.1) && decide (x.2 = y.2)) := by
    rw [Bool.eq_iff_iff]
    simp [Prod.ext_iff]
  rw [hh]
  generalize decide (x.1 = y.1) = B0
  generalize decide (x.2 = y.2) = B1
  cases B0 <;> cases B1 <;> rfl
abbrev plT (L : Ml) : List Value := vcl (clV L) 16 0
theorem size55 (F : Nat → Value) : (Try.prog.info? 55).map (·.size) = some (vcl F 16 0).length := by
  rw [vcl_length]
  kernel_rfl
def plB (L U : Ml) : Bool := (List.range 8).all fun i => decide (atL L i = atL U i)
theorem cl_part (L : Ml) (k : Nat) (hk : k < 8) (w : World) : (part 30 (plT L).toArray (k * 2)).run Try.prog w = .ok (.agg (clA (atL L k))) w := by
  have h3 : (isAgg 30).run Try.prog w = .ok true w := by kernel_rfl
  have h4 : (sizeOf 30).run Try.prog w = .ok 2 w := by kernel_rfl
  have e : (plT L).toArray.extract (k * 2) (k * 2 + 2) = clA (atL L k) := by
    apply Array.ext_getElem?
    intro j
    have hsz : (plT L).toArray.size = 16 := by simp [vcl_length]
    rw [Array.getElem?_extract]
    by_cases hj : j < 2
    · rw [if_pos (by omega)]
      have := vcl_at (clV L) 16 0 (k * 2 + j) (by omega)
      rw [List.getElem?_toArray, this]
      unfold clV
      rcases (show j = 0 ∨ j = 1 by omega) with rfl | rfl
      · rw [if_pos (by omega), show (0 + (k * 2 + 0)) / 2 = k by omega]; rfl
      · rw [if_neg (by omega), show (0 + (k * 2 + 1)) / 2 = k by omega]; rfl
    · rw [if_neg (by omega), Array.getElem?_eq_none (by simp [clA]; omega)]
  simp only [part, Sem.run_bind, h3, h4, Result.andThen_ok, if_true, Sem.run_pure, e]
theorem cls_eq (L U : Ml) (w : World) : ∀ is : List Nat, (∀ i ∈ is, i < 8) → (Op.eqItems 9999 30 2 (plT L).toArray (plT U).toArray is).run Try.prog w = .ok (is.all fun i => decide (atL L i = atL U i)) w
  | [], _ => by simp [Op.eqItems]
  | i :: is, h => by
    have hi := h i (by simp)
    have ih := cls_eq L U w is (fun j hj => h j (by simp [hj]))
    have hq := cl_eq 9997 (atL L i) (atL U i) w
    simp only [Op.eqItems, Sem.run_bind, cl_part L i hi, cl_part U i hi, hq, Result.andThen_ok, List.all_cons]
    generalize decide (atL L i = atL U i) = B
    cases B <;> simp [ih]
set_option maxRecDepth 100000 in
theorem arr_eql (L U : Ml) (w : World) : (binOp .eql 55 (.agg (plT L).toArray) (.agg (plT U).toArray)).run Try.prog w = .ok (.bool (plB L U)) w := by
  rw [run_eql_struct]
  obtain ⟨i0, hi⟩ : ∃ i0, Try.prog.info? 30 = some i0 := ⟨_, rfl⟩
  have hc : Try.prog.cellsOf 30 = 2 := by kernel_rfl
  have h := run_equalIn_array (P := Try.prog) w 9999 (plT L).toArray (plT U).toArray Try.underlying55 hi
  rw [hc, cls_eq L U w _ (by simp)] at h
  rw [h]
  rfl
theorem plB_iff {L U : Ml} (h : L.length ≤ 8) (hn : L.length = U.length) : plB L U = decide (L = U) := by
  rw [Bool.eq_iff_iff, decide_eq_true_iff]
  unfold plB
  simp only [List.all_eq_true, List.mem_range, decide_eq_true_iff]
  constructor
  · intro q
    apply List.ext_getElem?
    intro i
    by_cases hi : i < L.length
    · have := q i (by omega)
      unfold atL at this
      rw [List.getElem?_eq_getElem hi, List.getElem?_eq_getElem (by omega)] at this ⊢
      simpa using this
    · rw [List.getElem?_eq_none (by omega), List.getElem?_eq_none (by omega)]
  · rintro rfl i -
    rfl
def flB (M U : Cn) : Bool := decide (M.a = U.a) && (decide (M.e = U.e) && (decide (M.o = U.o) && decide (M.u = U.u)))
theorem fl_eql (M U : Cn) (w : World) : (binOp .eql 54 (.agg (flV M)) (.agg (flV U))).run Try.prog w = .ok (.bool (flB M U)) w := by
  obtain ⟨a, b, c, d, L⟩ := M
  obtain ⟨a', b', c', d', L'⟩ := U
  unfold flV flB
  simp only
  cases a <;> cases a' <;> cases b <;> cases b' <;> cases c <;> cases c' <;> cases d <;> cases d' <;> kernel_rfl
theorem eql30 (x1 x2 y1 y2 : Int) (W : World) : (binOp .eql 30 (.agg #[.int .i64 x1, .int .i64 x2]) (.agg #[.int .i64 y1, .int .i64 y2])).run Try.prog W = .ok (.bool (x1 == y1 && x2 == y2)) W := by
  cases h1 : (x1 == y1) <;> cases h2 : (x2 == y2) <;> go_simp
theorem neq30 (x1 x2 y1 y2 : Int) (W : World) : (binOp .neq 30 (.agg #[.int .i64 x1, .int .i64 x2]) (.agg #[.int .i64 y1, .int .i64 y2])).run Try.prog W = .ok (.bool (!(x1 == y1 && x2 == y2))) W := by
  cases h1 : (x1 == y1) <;> cases h2 : (x2 == y2) <;> go_simp
theorem range57 {W : World} {a : Nat} {M : Cn} (h : W.heap[a]? = some (.cells (stA M) 57 (0, 0))) : W.rangeAt a 1 (plT M.L) := by
  intro j v hv
  rw [cell_of_row W a (1 + j) _ _ _ h]
  have e : (stA M).toList = .int .i64 (M.L.length : Nat) :: plT M.L := rfl
  rw [← Array.getElem?_toList, e, Nat.add_comm, List.getElem?_cons_succ]
  exact hv
theorem count57 {W : World} {a : Nat} {M : Cn} (h : W.heap[a]? = some (.cells (stA M) 57 (0, 0))) : W.cell? ⟨a, 0, none⟩ = some (.int .i64 (M.L.length : Nat)) := by
  rw [cell_of_row W a 0 _ _ _ h]
  rfl
def sameV (M U : Cn) : Bool := flB M U && decide (M.L = U.L)
end Go.Proofs.Ytjggpchjfglgcaa
