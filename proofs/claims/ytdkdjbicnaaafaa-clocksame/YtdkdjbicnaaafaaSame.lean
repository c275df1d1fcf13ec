/- Same, of the program's clocks and of the reference's. -/
import Derived.Test.YtdkdjbicnaaafaaLook
import Derived.ChangeKeysEq
import Derived.Deep.QuietTactic
namespace Go.Proofs.Ytdkdjbicnaaafaa
open Go.RowKit

theorem Kp.drewN (w : World) (n : Nat) (rows : List Nat) : Kp w (w.drewN n) rows := ⟨rfl, rfl, rfl, Nat.le_refl _, fun _ _ _ => rfl⟩

theorem two_items (a b c d : Int) (w : World) : (Op.eqItems 9999 2 1 #[.int .i64 a, .int .i64 b] #[.int .i64 c, .int .i64 d] (List.range 2)).run Try.prog w = .ok (decide (a = c) && decide (b = d)) w := by
  have h3 : (isAgg 2).run Try.prog w = .ok false w := Try.isAgg2 w
  rw [show List.range 2 = [0, 1] from rfl]
  by_cases e1 : a = c <;> by_cases e2 : b = d <;> simp [Op.eqItems, part, Sem.run_bind, h3, go_sem, e1, e2]
theorem two_eql (a b c d : Int) (w : World) : (binOp .eql 38 (.agg #[.int .i64 a, .int .i64 b]) (.agg #[.int .i64 c, .int .i64 d])).run Try.prog w = .ok (.bool (decide (a = c) && decide (b = d))) w := by
  rw [run_eql_struct]
  obtain ⟨i0, hi⟩ : ∃ i0, Try.prog.info? 2 = some i0 := ⟨_, rfl⟩
  have hc : Try.prog.cellsOf 2 = 1 := by kernel_rfl
  have h := run_equalIn_array (P := Try.prog) w 9999 #[.int .i64 a, .int .i64 b] #[.int .i64 c, .int .i64 d] Try.underlying38 hi
  rw [hc, two_items] at h
  rw [h]
  rfl

set_option maxRecDepth 100000 in
theorem same_any (w : World) (b c : Nat) (x y x' y' : Int) (h : Ck w b x y) (h' : Ck w c x' y') : Calls Try.prog 13 #[.pointer (some ⟨b, 0, none⟩), .pointer (some ⟨c, 0, none⟩)] w fun e w' => e = .returned (.bool (decide (x = x') && decide (y = y'))) ∧ Kp w w' [] := by
  have cz := zero_no w b x y h
  have cy := zero_no w c x' y' h'
  have c0 := h.c0
  have c1 := h.c1
  have d0 := h'.c0
  have d1 := h'.c1
  have hgd := fun (w : World) (p q : Operand) (xs ys : Array Value) => run_eqGuard_agg (P := Try.prog) w .eql 38 p q xs ys (by kernel_rfl)
  have he := two_eql x y x' y'
  obtain ⟨r, hr⟩ : ∃ r, (decide (x = x') && decide (y = y')) = r := ⟨_, rfl⟩
  rw [hr] at he ⊢
  clear h h' hr
  go_enter Try.func13, Try.ntmps13
  go_wp2_with fail
  refine cz.mono ?_; rintro e w' ⟨rfl, rfl⟩
  go_wp2_with fail
  refine cy.mono ?_; rintro e w ⟨rfl, rfl⟩
  go_wp2_with fail
  go_quiet (fail)
  go_wp2
  go_ret
  exact ⟨rfl, Kp.drewN _ _ _⟩
set_option maxRecDepth 100000 in
theorem zsame (w : World) (p q : Option Addr) (h : Zc w p) (h' : Zc w q) : Calls Try.prog 13 #[.pointer p, .pointer q] w fun e w' => e = .returned (.bool true) ∧ w' = w := by
  have cz := zero_yes w p h
  have cy := zero_yes w q h'
  clear h h'
  go_enter Try.func13, Try.ntmps13
  go_wp2_with fail
  refine cz.mono ?_; rintro e w' ⟨rfl, rfl⟩
  go_wp2_with fail
  refine cz.mono ?_; rintro e w ⟨rfl, rfl⟩
  go_wp2_with fail
  refine cy.mono ?_; rintro e w ⟨rfl, rfl⟩
  go_wp2
  go_ret
  exact ⟨rfl, rfl⟩
set_option maxRecDepth 100000 in
theorem zsame_left (w : World) (p : Option Addr) (b : Nat) (x y : Int) (h : Zc w p) (h' : Ck w b x y) : Calls Try.prog 13 #[.pointer p, .pointer (some ⟨b, 0, none⟩)] w fun e w' => e = .returned (.bool false) ∧ w' = w := by
  have cz := zero_yes w p h
  have cy := zero_no w b x y h'
  clear h h'
  go_enter Try.func13, Try.ntmps13
  go_wp2_with fail
  refine cz.mono ?_; rintro e w' ⟨rfl, rfl⟩
  go_wp2_with fail
  refine cz.mono ?_; rintro e w ⟨rfl, rfl⟩
  go_wp2_with fail
  refine cy.mono ?_; rintro e w ⟨rfl, rfl⟩
  go_wp2
  go_ret
  exact ⟨rfl, rfl⟩
set_option maxRecDepth 100000 in
theorem zsame_right (w : World) (p : Option Addr) (b : Nat) (x y : Int) (h : Zc w p) (h' : Ck w b x y) : Calls Try.prog 13 #[.pointer (some ⟨b, 0, none⟩), .pointer p] w fun e w' => e = .returned (.bool false) ∧ w' = w := by
  have cz := zero_yes w p h
  have cy := zero_no w b x y h'
  clear h h'
  go_enter Try.func13, Try.ntmps13
  go_wp2_with fail
  refine cy.mono ?_; rintro e w' ⟨rfl, rfl⟩
  go_wp2_with fail
  refine cz.mono ?_; rintro e w ⟨rfl, rfl⟩
  go_wp2_with fail
  refine cy.mono ?_; rintro e w ⟨rfl, rfl⟩
  go_wp2
  go_ret
  exact ⟨rfl, rfl⟩

/-! ### The reference -/
set_option maxRecDepth 100000 in
theorem rsame_any (w : World) (b c : Nat) (x y x' y' : Int) (h : Rk w b x y) (h' : Rk w c x' y') : Calls Try.prog 14 #[.pointer (some ⟨b, 0, none⟩), .pointer (some ⟨c, 0, none⟩)] w fun e w' => e = .returned (.bool (decide (x = x') && decide (y = y'))) ∧ Kp w w' [] := by
  have c0 := h.c0
  have c1 := h.c1
  have d0 := h'.c0
  have d1 := h'.c1
  have hgd := fun (w : World) (p q : Operand) (xs ys : Array Value) => run_eqGuard_agg (P := Try.prog) w .eql 38 p q xs ys (by kernel_rfl)
  have he := two_eql x y x' y'
  obtain ⟨r, hr⟩ : ∃ r, (decide (x = x') && decide (y = y')) = r := ⟨_, rfl⟩
  rw [hr] at he ⊢
  clear h h' hr
  go_enter Try.func14, Try.ntmps14
  go_wp2_with fail
  go_quiet (fail)
  go_wp2
  go_ret
  exact ⟨rfl, Kp.drewN _ _ _⟩
set_option maxRecDepth 100000 in
theorem rsame_none (w : World) : Calls Try.prog 14 #[.pointer none, .pointer none] w fun e w' => e = .returned (.bool true) ∧ w' = w := by
  go_enter Try.func14, Try.ntmps14
  go_wp2
  go_ret
  exact ⟨rfl, rfl⟩
set_option maxRecDepth 100000 in
theorem rsame_left (w : World) (b : Nat) : Calls Try.prog 14 #[.pointer none, .pointer (some ⟨b, 0, none⟩)] w fun e w' => e = .returned (.bool false) ∧ w' = w := by
  go_enter Try.func14, Try.ntmps14
  go_wp2
  go_ret
  exact ⟨rfl, rfl⟩
set_option maxRecDepth 100000 in
theorem rsame_right (w : World) (b : Nat) : Calls Try.prog 14 #[.pointer (some ⟨b, 0, none⟩), .pointer none] w fun e w' => e = .returned (.bool false) ∧ w' = w := by
  go_enter Try.func14, Try.ntmps14
  go_wp2
  go_ret
  exact ⟨rfl, rfl⟩
end Go.Proofs.Ytdkdjbicnaaafaa
