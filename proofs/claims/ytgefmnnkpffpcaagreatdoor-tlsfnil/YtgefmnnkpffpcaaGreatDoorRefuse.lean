/- Why a call is refused: what is asked first is told by a closure. -/
import Derived.Test.YtgefmnnkpffpcaaGreatDoorHas
namespace Go.Proofs.YtgefmnnkpffpcaaGreatDoor
open Go.RowKit

theorem not_nil (w : World) (mb n cap : Nat) : (binOp .eql 40 (.slice (some ⟨mb, 0, none⟩) n cap) (.slice none 0 0)).run Tryz.prog w = .ok (.bool false) w := by
  simpa using Lib.run_eql_slice_nil (P := Tryz.prog) w 40 5 (some ⟨mb, 0, none⟩) n cap 0 0 Tryz.underlying40

set_option maxRecDepth 100000 in
theorem set1 (w : World) (p0 p1 rb n cap : Nat) (ao : Option Addr) (o : Int) (hn : n ≤ 65536) (h4 : o ≤ 9223372036854775807) (h0 : w.cell? ⟨p0, 0, none⟩ = some (.pointer (some ⟨rb, 0, none⟩))) (h1 : w.cell? ⟨p1, 0, none⟩ = some (.int .i64 o)) (hc0 : w.cell? ⟨rb, 0, none⟩ = some (.slice ao n cap)) :
    Calls Tryz.prog 108 #[.pointer (some ⟨p0, 0, none⟩), .pointer (some ⟨p1, 0, none⟩)] w fun e w' => e = .returned (.bool (hasW n o)) ∧ w' = w := by
  go_enter Tryz.func108, Tryz.ntmps108
  go_wp2_with fail
  refine (hasWord_any w rb n cap ao o hn h4 hc0).mono ?_
  rintro e w1 ⟨rfl, rfl⟩
  go_wp2
  go_ret
  exact ⟨rfl, rfl⟩
set_option maxRecDepth 100000 in
theorem set_ref (w : World) (p0 p1 rb mb n cap : Nat) (o : Int) (hn : n ≤ 65536) (h4 : o ≤ 9223372036854775807) (h0 : w.cell? ⟨p0, 0, none⟩ = some (.pointer (some ⟨rb, 0, none⟩))) (h1 : w.cell? ⟨p1, 0, none⟩ = some (.int .i64 o)) (hc0 : w.cell? ⟨rb, 0, none⟩ = some (.slice (some ⟨mb, 0, none⟩) n cap)) :
    Calls Tryz.prog 87 #[.pointer (some ⟨rb, 0, none⟩), .func (.func 108) #[] #[.pointer (some ⟨p0, 0, none⟩), .pointer (some ⟨p1, 0, none⟩)]] w fun e w' => e = .returned (.int .i64 (if hasW n o then 0 else 2)) ∧ w' = w := by
  have hnn := fun w : World => not_nil w mb n cap
  obtain ⟨B, hB⟩ : ∃ B, hasW n o = B := ⟨_, rfl⟩
  rw [hB]
  have HB := hid hB
  clear hB
  cases B
  all_goals simp only [Bool.false_eq_true, if_false, if_true]
  all_goals go_enter Tryz.func87, Tryz.ntmps87
  all_goals go_wp2_with (go_at_call 52; go_in)
  all_goals refine (set1 w p0 p1 rb n cap (some ⟨mb, 0, none⟩) o hn h4 h0 h1 hc0).mono ?_
  all_goals rintro e w1 ⟨rfl, rfl⟩
  all_goals rw [HB.out]
  all_goals clear hnn
  all_goals go_wp2
  all_goals go_ret
  all_goals exact ⟨rfl, rfl⟩

set_option maxRecDepth 100000 in
theorem get1 (w : World) (p0 p1 rb n cap : Nat) (ao : Option Addr) (o : Int) (hn : n ≤ 65536) (h4 : o ≤ 9223372036854775807) (h0 : w.cell? ⟨p0, 0, none⟩ = some (.pointer (some ⟨rb, 0, none⟩))) (h1 : w.cell? ⟨p1, 0, none⟩ = some (.int .i64 o)) (hc0 : w.cell? ⟨rb, 0, none⟩ = some (.slice ao n cap)) :
    Calls Tryz.prog 88 #[.pointer (some ⟨p0, 0, none⟩), .pointer (some ⟨p1, 0, none⟩)] w fun e w' => e = .returned (.bool (hasW n o)) ∧ w' = w := by
  go_enter Tryz.func88, Tryz.ntmps88
  go_wp2_with fail
  refine (hasWord_any w rb n cap ao o hn h4 hc0).mono ?_
  rintro e w1 ⟨rfl, rfl⟩
  go_wp2
  go_ret
  exact ⟨rfl, rfl⟩
set_option maxRecDepth 100000 in
theorem get_ref (w : World) (p0 p1 rb mb n cap : Nat) (o : Int) (hn : n ≤ 65536) (h4 : o ≤ 9223372036854775807) (h0 : w.cell? ⟨p0, 0, none⟩ = some (.pointer (some ⟨rb, 0, none⟩))) (h1 : w.cell? ⟨p1, 0, none⟩ = some (.int .i64 o)) (hc0 : w.cell? ⟨rb, 0, none⟩ = some (.slice (some ⟨mb, 0, none⟩) n cap)) :
    Calls Tryz.prog 87 #[.pointer (some ⟨rb, 0, none⟩), .func (.func 88) #[] #[.pointer (some ⟨p0, 0, none⟩), .pointer (some ⟨p1, 0, none⟩)]] w fun e w' => e = .returned (.int .i64 (if hasW n o then 0 else 2)) ∧ w' = w := by
  have hnn := fun w : World => not_nil w mb n cap
  obtain ⟨B, hB⟩ : ∃ B, hasW n o = B := ⟨_, rfl⟩
  rw [hB]
  have HB := hid hB
  clear hB
  cases B
  all_goals simp only [Bool.false_eq_true, if_false, if_true]
  all_goals go_enter Tryz.func87, Tryz.ntmps87
  all_goals go_wp2_with (go_at_call 52; go_in)
  all_goals refine (get1 w p0 p1 rb n cap (some ⟨mb, 0, none⟩) o hn h4 h0 h1 hc0).mono ?_
  all_goals rintro e w1 ⟨rfl, rfl⟩
  all_goals rw [HB.out]
  all_goals clear hnn
  all_goals go_wp2
  all_goals go_ret
  all_goals exact ⟨rfl, rfl⟩

set_option maxRecDepth 100000 in
theorem read1 (w : World) (p0 p1 p2 rb n cap : Nat) (ao : Option Addr) (o : Int) (m : Int) (hn : n ≤ 65536) (h4 : o ≤ 9223372036854775807) (h0 : w.cell? ⟨p0, 0, none⟩ = some (.pointer (some ⟨rb, 0, none⟩))) (h1 : w.cell? ⟨p1, 0, none⟩ = some (.int .i64 o)) (h2 : w.cell? ⟨p2, 0, none⟩ = some (.int .i64 m)) (hc0 : w.cell? ⟨rb, 0, none⟩ = some (.slice ao n cap)) :
    Calls Tryz.prog 121 #[.pointer (some ⟨p0, 0, none⟩), .pointer (some ⟨p1, 0, none⟩), .pointer (some ⟨p2, 0, none⟩)] w fun e w' => e = .returned (.bool (hasB n o m)) ∧ w' = w := by
  go_enter Tryz.func121, Tryz.ntmps121
  go_wp2_with fail
  refine (hasBytes_any w rb n cap ao o m hn h4 hc0).mono ?_
  rintro e w1 ⟨rfl, rfl⟩
  go_wp2
  go_ret
  exact ⟨rfl, rfl⟩
set_option maxRecDepth 100000 in
theorem read_ref (w : World) (p0 p1 p2 rb mb n cap : Nat) (o : Int) (m : Int) (hn : n ≤ 65536) (h4 : o ≤ 9223372036854775807) (h0 : w.cell? ⟨p0, 0, none⟩ = some (.pointer (some ⟨rb, 0, none⟩))) (h1 : w.cell? ⟨p1, 0, none⟩ = some (.int .i64 o)) (h2 : w.cell? ⟨p2, 0, none⟩ = some (.int .i64 m)) (hc0 : w.cell? ⟨rb, 0, none⟩ = some (.slice (some ⟨mb, 0, none⟩) n cap)) :
    Calls Tryz.prog 87 #[.pointer (some ⟨rb, 0, none⟩), .func (.func 121) #[] #[.pointer (some ⟨p0, 0, none⟩), .pointer (some ⟨p1, 0, none⟩), .pointer (some ⟨p2, 0, none⟩)]] w fun e w' => e = .returned (.int .i64 (if hasB n o m then 0 else 2)) ∧ w' = w := by
  have hnn := fun w : World => not_nil w mb n cap
  obtain ⟨B, hB⟩ : ∃ B, hasB n o m = B := ⟨_, rfl⟩
  rw [hB]
  have HB := hid hB
  clear hB
  cases B
  all_goals simp only [Bool.false_eq_true, if_false, if_true]
  all_goals go_enter Tryz.func87, Tryz.ntmps87
  all_goals go_wp2_with (go_at_call 52; go_in)
  all_goals refine (read1 w p0 p1 p2 rb n cap (some ⟨mb, 0, none⟩) o m hn h4 h0 h1 h2 hc0).mono ?_
  all_goals rintro e w1 ⟨rfl, rfl⟩
  all_goals rw [HB.out]
  all_goals clear hnn
  all_goals go_wp2
  all_goals go_ret
  all_goals exact ⟨rfl, rfl⟩

set_option maxRecDepth 100000 in
theorem write1 (w : World) (p0 p1 p2 rb n cap : Nat) (ao : Option Addr) (o : Int) (bo : Option Addr) (m mc : Nat) (hn : n ≤ 65536) (h4 : o ≤ 9223372036854775807) (h0 : w.cell? ⟨p0, 0, none⟩ = some (.pointer (some ⟨rb, 0, none⟩))) (h1 : w.cell? ⟨p1, 0, none⟩ = some (.int .i64 o)) (h2 : w.cell? ⟨p2, 0, none⟩ = some (.slice bo m mc)) (hc0 : w.cell? ⟨rb, 0, none⟩ = some (.slice ao n cap)) :
    Calls Tryz.prog 105 #[.pointer (some ⟨p0, 0, none⟩), .pointer (some ⟨p1, 0, none⟩), .pointer (some ⟨p2, 0, none⟩)] w fun e w' => e = .returned (.bool (hasB n o m)) ∧ w' = w := by
  go_enter Tryz.func105, Tryz.ntmps105
  go_wp2_with fail
  refine (hasBytes_any w rb n cap ao o m hn h4 hc0).mono ?_
  rintro e w1 ⟨rfl, rfl⟩
  go_wp2
  go_ret
  exact ⟨rfl, rfl⟩
set_option maxRecDepth 100000 in
theorem write_ref (w : World) (p0 p1 p2 rb mb n cap : Nat) (o : Int) (bo : Option Addr) (m mc : Nat) (hn : n ≤ 65536) (h4 : o ≤ 9223372036854775807) (h0 : w.cell? ⟨p0, 0, none⟩ = some (.pointer (some ⟨rb, 0, none⟩))) (h1 : w.cell? ⟨p1, 0, none⟩ = some (.int .i64 o)) (h2 : w.cell? ⟨p2, 0, none⟩ = some (.slice bo m mc)) (hc0 : w.cell? ⟨rb, 0, none⟩ = some (.slice (some ⟨mb, 0, none⟩) n cap)) :
    Calls Tryz.prog 87 #[.pointer (some ⟨rb, 0, none⟩), .func (.func 105) #[] #[.pointer (some ⟨p0, 0, none⟩), .pointer (some ⟨p1, 0, none⟩), .pointer (some ⟨p2, 0, none⟩)]] w fun e w' => e = .returned (.int .i64 (if hasB n o m then 0 else 2)) ∧ w' = w := by
  have hnn := fun w : World => not_nil w mb n cap
  obtain ⟨B, hB⟩ : ∃ B, hasB n o m = B := ⟨_, rfl⟩
  rw [hB]
  have HB := hid hB
  clear hB
  cases B
  all_goals simp only [Bool.false_eq_true, if_false, if_true]
  all_goals go_enter Tryz.func87, Tryz.ntmps87
  all_goals go_wp2_with (go_at_call 52; go_in)
  all_goals refine (write1 w p0 p1 p2 rb n cap (some ⟨mb, 0, none⟩) o bo m mc hn h4 h0 h1 h2 hc0).mono ?_
  all_goals rintro e w1 ⟨rfl, rfl⟩
  all_goals rw [HB.out]
  all_goals clear hnn
  all_goals go_wp2
  all_goals go_ret
  all_goals exact ⟨rfl, rfl⟩
end Go.Proofs.YtgefmnnkpffpcaaGreatDoor
