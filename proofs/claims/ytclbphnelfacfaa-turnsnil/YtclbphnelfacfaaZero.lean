/- Copy, Same; a list that is not there. -/
import Derived.Test.YtclbphnelfacfaaOwn
namespace Go.Proofs.Ytclbphnelfacfaa
open Go.RowKit Go.Shelf

set_option maxRecDepth 100000 in
theorem copy_ok (w : World) (rb : Nat) (c : Nat → Nat) (u s : Nat) (h : Rr w rb c u s) (h1 : c 32 ≠ 0) : Calls Try.prog 48 #[.pointer (some ⟨rb, 0, none⟩)] w fun e w' => e = .returned (.pointer (some ⟨w.heap.size, 0, none⟩)) ∧ w' = w.alloc (.cells (rcs c u s) 80) := by
  have cz' := zero_ok w rb c u s h h1
  have HT := hid h
  have z58 := (zero_of_info info58).1
  clear h
  go_enter Try.func48, Try.ntmps48
  go_wp2_with (first | (go_at_call 71; refine cz'.mono ?_; rintro e w' ⟨rfl, rfl⟩) | (refine wpList_load_row rfl 80 (.tmp 7) rfl rb rfl 80 (rcs c u s) (0, 0) _ HT.out Try.underlying80 rfl (size58 c u s) ?_) | (refine wpList_store_new rfl 80 (.tmp 3) (.tmp 8) rfl 80 _ (rcs c u s) rfl rfl (size58 c u s) (by simp [rcs_size]) (one58 c u s) ?_))
  go_ret
  exact ⟨rfl, rfl⟩
set_option maxRecDepth 100000 in
theorem zcopy (w : World) (p : Option Addr) (h : Zr w p) : Calls Try.prog 48 #[.pointer p] w fun e w' => e = .returned (.pointer none) ∧ w' = w := by
  have cz := zero_yes w p h
  clear h
  go_enter Try.func48, Try.ntmps48
  go_wp2_with (go_at_call 71; refine cz.mono ?_; rintro e w' ⟨rfl, rfl⟩)
  go_ret
  exact ⟨rfl, rfl⟩

/-! ### Same -/
def sameC (c d : Nat → Nat) : Bool := (List.range 48).all fun i => decide (c i = d i)
theorem sameC_iff (c d : Nat → Nat) : sameC c d = true ↔ ∀ i, i < 48 → c i = d i := by simp [sameC]
theorem part_at (c : Nat → Nat) (k : Nat) (hk : k < 48) (w : World) : (part 3 (arr c) k).run Try.prog w = .ok (.int .i64 (c k : Nat)) w := by
  have h3 : (isAgg 3).run Try.prog w = .ok false w := Try.isAgg3 w
  have e0 := icl_at c 48 0 k hk
  rw [Nat.zero_add] at e0
  simp [part, Sem.run_bind, h3, arr, e0]
theorem items_eq (c d : Nat → Nat) (w : World) : ∀ is : List Nat, (∀ i ∈ is, i < 48) → (Op.eqItems 9999 3 1 (arr c) (arr d) is).run Try.prog w = .ok (is.all fun i => decide (c i = d i)) w
  | [], _ => by simp [Op.eqItems]
  | i :: is, h => by
    have hi := h i (by simp)
    have ih := items_eq c d w is (fun j hj => h j (by simp [hj]))
    have hq : (Op.equalIn 9999 3 (.int .i64 (c i : Nat)) (.int .i64 (d i : Nat))).run Try.prog w = .ok (decide (c i = d i)) w := by
      by_cases e : c i = d i
      · simp [go_sem, e]
      · have : ¬ ((c i : Nat) : Int) = ((d i : Nat) : Int) := by omega
        simp [go_sem, e]
        exact this
    simp only [Op.eqItems, Sem.run_bind, Nat.mul_one, part_at c i hi, part_at d i hi, hq, Result.andThen_ok]
    by_cases he : c i = d i
    · simp [ih, he]
    · simp [he]
theorem arr_eql (c d : Nat → Nat) (w : World) : (binOp .eql 77 (.agg (arr c)) (.agg (arr d))).run Try.prog w = .ok (.bool (sameC c d)) w := by
  rw [run_eql_struct]
  obtain ⟨i0, hi⟩ : ∃ i0, Try.prog.info? 3 = some i0 := ⟨_, rfl⟩
  have hc : Try.prog.cellsOf 3 = 1 := by kernel_rfl
  have h := run_equalIn_array (P := Try.prog) w 9999 (arr c) (arr d) Try.underlying77 hi
  rw [hc, items_eq c d w _ (by simp)] at h
  rw [h]
  rfl
set_option maxRecDepth 100000 in
theorem same_any (w : World) (p q : Option Addr) (c d : Nat → Nat) (L M : Nat → List Nat) (h : Vw w p c L) (h' : Vw w q d M) : Calls Try.prog 49 #[.pointer p, .pointer q] w fun e w' => e = .returned (.bool (sameC c d)) ∧ Kp w w' [] := by
  have c3 := h.rings
  have c4 := (h'.keep (Kp.alloc w (.cells (arr c) 77) [])).rings
  have ha := arr_eql c d
  have hgd := fun (w : World) (x y : Operand) (xs ys : Array Value) => run_eqGuard_agg (P := Try.prog) w .eql 77 x y xs ys (by kernel_rfl)
  have hk := (Kp.alloc w (.cells (arr c) 77) []).trans (Kp.alloc _ (.cells (arr d) 77) [])
  have HK := hid hk
  clear h h' hk
  go_enter Try.func49, Try.ntmps49
  go_wp2_with fail
  refine c3.mono ?_
  rintro e w2 ⟨rfl, rfl⟩
  go_wp2_with fail
  refine c4.mono ?_
  rintro e w3 ⟨rfl, rfl⟩
  go_wp2
  go_ret
  exact ⟨rfl, HK.out⟩

/-! ### No list -/
set_option maxRecDepth 100000 in
theorem zput (w : World) (p : Option Addr) (a b : Int) (f : Value) (h : Zr w p) : Calls Try.prog 65 #[.pointer p, .int .i64 a, .int .i64 b, f] w fun e w' => e = .returned (.int .i64 1) ∧ w' = w := by
  have cz := zero_yes w p h
  clear h
  go_enter Try.func65, Try.ntmps65
  go_wp2_with (go_at_call 71; refine cz.mono ?_; rintro e w' ⟨rfl, rfl⟩)
  go_ret
  exact ⟨rfl, rfl⟩
set_option maxRecDepth 100000 in
theorem ztail (w : World) (p : Option Addr) (a b : Int) (h : Zr w p) : Calls Try.prog 43 #[.pointer p, .int .i64 a, .int .i64 b] w fun e w' => e = .returned (.int .i64 1) ∧ Kp w w' [] := by
  have HK := hid ((Kp.alloc w (.cells #[.pointer p] 55) []).trans (Kp.alloc _ (.cells #[.int .i64 a] 3) []))
  have cp := fun f => zput _ p a b f (h.keep HK.out)
  clear h
  go_enter Try.func43, Try.ntmps43
  go_wp2_with (go_at_call 65; refine (cp _).mono ?_; rintro e w' ⟨rfl, rfl⟩)
  go_ret
  exact ⟨rfl, HK.out⟩
set_option maxRecDepth 100000 in
theorem zhead (w : World) (p : Option Addr) (a b : Int) (h : Zr w p) : Calls Try.prog 77 #[.pointer p, .int .i64 a, .int .i64 b] w fun e w' => e = .returned (.int .i64 1) ∧ Kp w w' [] := by
  have HK := hid (Kp.alloc w (.cells #[.int .i64 a] 3) [])
  have cp := fun f => zput _ p a b f (h.keep HK.out)
  clear h
  go_enter Try.func77, Try.ntmps77
  go_wp2_with (go_at_call 65; refine (cp _).mono ?_; rintro e w' ⟨rfl, rfl⟩)
  go_ret
  exact ⟨rfl, HK.out⟩
set_option maxRecDepth 100000 in
theorem zremove (w : World) (p : Option Addr) (a : Int) (h : Zr w p) : Calls Try.prog 53 #[.pointer p, .int .i64 a] w fun e w' => e = .returned (.int .i64 1) ∧ w' = w := by
  have cz := zero_yes w p h
  clear h
  go_enter Try.func53, Try.ntmps53
  go_wp2_with (go_at_call 71; refine cz.mono ?_; rintro e w' ⟨rfl, rfl⟩)
  go_ret
  exact ⟨rfl, rfl⟩
set_option maxRecDepth 100000 in
theorem zfirst (w : World) (p : Option Addr) (h : Zr w p) : Calls Try.prog 46 #[.pointer p] w fun e w' => e = .returned (.tuple #[.int .i64 0, .bool false]) ∧ w' = w := by
  have cz := zero_yes w p h
  clear h
  go_enter Try.func46, Try.ntmps46
  go_wp2_with (go_at_call 71; refine cz.mono ?_; rintro e w' ⟨rfl, rfl⟩)
  go_ret2
  exact ⟨rfl, rfl⟩
set_option maxRecDepth 100000 in
theorem zprio (w : World) (p : Option Addr) (a : Int) (h : Zr w p) : Calls Try.prog 50 #[.pointer p, .int .i64 a] w fun e w' => e = .returned (.tuple #[.int .i64 0, .bool false]) ∧ w' = w := by
  have cz := zero_yes w p h
  clear h
  go_enter Try.func50, Try.ntmps50
  go_wp2_with (go_at_call 71; refine cz.mono ?_; rintro e w' ⟨rfl, rfl⟩)
  go_ret2
  exact ⟨rfl, rfl⟩
theorem seqs0 : seqs (fun _ => []) 31 = [] := seqs_none fun _ _ _ => rfl
theorem zvw {w : World} {p : Option Addr} (h : Zr w p) : Vw w p cz (fun _ => []) := .inr ⟨h, rfl, rfl⟩
theorem zlen (w : World) (p : Option Addr) (h : Zr w p) : Calls Try.prog 61 #[.pointer p] w fun e w' => e = .returned (.int .i64 0) ∧ Kp w w' [] := by
  have := len_vw w p cz _ (zvw h) (by rw [seqs0]; simp)
  rw [seqs0] at this
  exact this
theorem zlist (w : World) (p : Option Addr) (h : Zr w p) : Calls Try.prog 45 #[.pointer p, .int .i64 1] w fun e w' => e = .returned (.slice none 0 0) ∧ Kp w w' [] := by
  refine (list_vw w p cz _ (zvw h) 1 (by decide) (by decide) (by simp)).mono ?_
  rintro e w' ⟨⟨V, rfl, hN⟩, hK⟩
  exact ⟨by rw [hN.2 rfl], hK⟩
end Go.Proofs.Ytclbphnelfacfaa
