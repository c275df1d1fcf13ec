/- Copy, Same. -/
import Derived.Test.YtaofpijcjohnhaaLen
import Derived.ChangeKeysEq
import Derived.Laws.StructEq
namespace Go.Proofs.Ytaofpijcjohnhaa
open Go.RowKit

/-- Are the places the same? -/
def sameT (T U : Pl) : Bool := (List.range 16).all fun i => decide (T i = U i)
theorem sameT_iff (T U : Pl) : sameT T U = true ↔ ∀ i, i < 16 → T i = U i := by simp [sameT]
theorem pl_eq (a b : Bool) (g h : Int) (w : World) : (Op.equalIn 9999 52 (.agg #[.bool a, .int .i64 g]) (.agg #[.bool b, .int .i64 h])).run Try.prog w = .ok (decide ((a, g) = (b, h))) w := by
  by_cases h1 : g = h <;> cases a <;> cases b <;> simp [go_sem, h1]
theorem part_at (T : Pl) (k : Nat) (hk : k < 16) (w : World) : (part 52 (pcl T 16 0).toArray (k * 2)).run Try.prog w = .ok (.agg #[.bool (T k).1, .int .i64 (T k).2]) w := by
  have h3 : (isAgg 52).run Try.prog w = .ok true w := by kernel_rfl
  obtain ⟨e0, e1⟩ := pcl_at T 16 0 k hk
  rw [Nat.zero_add] at e0 e1
  have ht : List.take 2 (List.drop (k * 2) (pcl T 16 0)) = [.bool (T k).1, .int .i64 (T k).2] := by
    apply List.ext_getElem?
    intro j
    match j with
    | 0 => simpa using e0
    | 1 => simpa using e1
    | j + 2 => simp [List.getElem?_take]; omega
  simp [part, Sem.run_bind, h3, ht]
theorem items_eq (T U : Pl) (w : World) : ∀ is : List Nat, (∀ i ∈ is, i < 16) → (Op.eqItems 9999 52 2 (pcl T 16 0).toArray (pcl U 16 0).toArray is).run Try.prog w = .ok (is.all fun i => decide (T i = U i)) w
  | [], _ => by simp [Op.eqItems]
  | i :: is, h => by
    have hi := h i (by simp)
    have ih := items_eq T U w is (fun j hj => h j (by simp [hj]))
    simp only [Op.eqItems, Sem.run_bind, part_at T i hi, part_at U i hi, pl_eq, Result.andThen_ok]
    by_cases he : T i = U i
    · have : decide (((T i).1, (T i).2) = ((U i).1, (U i).2)) = true := by simp [he]
      rw [this]
      simp [ih, he]
    · have : decide (((T i).1, (T i).2) = ((U i).1, (U i).2)) = false := by simp [he]
      rw [this]
      simp [he]
theorem arr_eql (T U : Pl) (w : World) : (binOp .eql 53 (.agg (pcl T 16 0).toArray) (.agg (pcl U 16 0).toArray)).run Try.prog w = .ok (.bool (sameT T U)) w := by
  rw [run_eql_struct]
  obtain ⟨i0, hi⟩ : ∃ i0, Try.prog.info? 52 = some i0 := ⟨_, rfl⟩
  have hc : Try.prog.cellsOf 52 = 2 := by kernel_rfl
  have h := run_equalIn_array (P := Try.prog) w 9999 (pcl T 16 0).toArray (pcl U 16 0).toArray Try.underlying53 hi
  rw [hc, items_eq T U w _ (by simp)] at h
  rw [h]
  rfl

/-- What a pointer shows: a table, or none. -/
def Vw (w : World) (p : Option Addr) (n : Int) (T : Pl) : Prop := (∃ tb, p = some ⟨tb, 0, none⟩ ∧ Tt w tb n T ∧ 1 ≤ n) ∨ (Zt w p ∧ n = 0 ∧ T = T0)
theorem Vw.keep {w w' : World} {p : Option Addr} {n : Int} {T : Pl} (h : Vw w p n T) (hk : Kp w w' []) : Vw w' p n T := by
  rcases h with ⟨tb, rfl, h, h1⟩ | ⟨hz, rfl, rfl⟩
  · exact .inl ⟨tb, rfl, h.keep hk (by simp), h1⟩
  · exact .inr ⟨hz.keep hk, rfl, rfl⟩
set_option maxRecDepth 100000 in
theorem places_vw (w : World) (p : Option Addr) (n : Int) (T : Pl) (h : Vw w p n T) : Calls Try.prog 27 #[.pointer p] w fun e w' => e = .returned (.int .i64 n) ∧ w' = w := by
  rcases h with ⟨tb, rfl, h, h1⟩ | ⟨hz, rfl, rfl⟩
  · exact places_ok w tb n T h h1
  · have cz := zero_yes w p hz
    clear hz
    go_enter Try.func27, Try.ntmps27
    go_wp2_with (go_at_call 29; refine cz.mono ?_; rintro e w' ⟨rfl, rfl⟩)
    go_ret
    exact ⟨rfl, rfl⟩
theorem arr_vw (w : World) (p : Option Addr) (n : Int) (T : Pl) (h : Vw w p n T) : Calls Try.prog 28 #[.pointer p] w fun e w' => e = .returned (.agg (pcl T 16 0).toArray) ∧ w' = w.alloc (.cells (pcl T 16 0).toArray 53) := by
  rcases h with ⟨tb, rfl, h, h1⟩ | ⟨hz, rfl, rfl⟩
  · exact arr_ok w tb n T h h1
  · exact arr_zero w p hz

set_option maxRecDepth 100000 in
theorem same_any (w : World) (p q : Option Addr) (n m : Int) (T U : Pl) (h : Vw w p n T) (h' : Vw w q m U) : Calls Try.prog 15 #[.pointer p, .pointer q] w fun e w' => e = .returned (.bool (decide (n = m) && sameT T U)) ∧ Kp w w' [] := by
  have c1 := places_vw w p n T h
  have c2 := places_vw w q m U h'
  have c3 := arr_vw w p n T h
  have c4 := arr_vw _ q m U (h'.keep (Kp.alloc w (.cells (pcl T 16 0).toArray 53) []))
  have ha := arr_eql T U
  have hgd := fun (w : World) (x y : Operand) (xs ys : Array Value) => run_eqGuard_agg (P := Try.prog) w .eql 53 x y xs ys (by kernel_rfl)
  have hk := (Kp.alloc w (.cells (pcl T 16 0).toArray 53) []).trans (Kp.alloc _ (.cells (pcl U 16 0).toArray 53) [])
  have HK := hid hk
  clear h h' hk
  by_cases hn : n = m
  · have hn' : (n == m) = true := by simp [hn]
    rw [show decide (n = m) = true by simp [hn], Bool.true_and]
    clear hn
    go_enter Try.func15, Try.ntmps15
    go_wp2_with fail
    refine c1.mono ?_
    rintro e w' ⟨rfl, rfl⟩
    go_wp2_with fail
    refine c2.mono ?_
    rintro e w1 ⟨rfl, rfl⟩
    go_wp2_with fail
    refine c3.mono ?_
    rintro e w2 ⟨rfl, rfl⟩
    go_wp2_with fail
    refine c4.mono ?_
    rintro e w3 ⟨rfl, rfl⟩
    go_wp2
    go_ret
    exact ⟨rfl, HK.out⟩
  · have hn' : (n == m) = false := by simp [hn]
    rw [show decide (n = m) = false by simp [hn], Bool.false_and]
    clear hn
    go_enter Try.func15, Try.ntmps15
    go_wp2_with fail
    refine c1.mono ?_
    rintro e w' ⟨rfl, rfl⟩
    go_wp2_with fail
    refine c2.mono ?_
    rintro e w1 ⟨rfl, rfl⟩
    go_wp2
    go_ret
    exact ⟨rfl, Kp.refl _ _⟩
end Go.Proofs.Ytaofpijcjohnhaa
