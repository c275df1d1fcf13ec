/- Which bytes and words an arena has. -/
import Derived.Test.YtgefmnnkpffpcaaGreatDoorPcsJ
namespace Go.Proofs.YtgefmnnkpffpcaaGreatDoor
open Go.RowKit

/-- Are these m bytes from o on there? -/
def hasB (n : Nat) (o m : Int) : Bool := decide (0 ≤ o ∧ 0 ≤ m ∧ m ≤ n - o)
def hasW (n : Nat) (o : Int) : Bool := decide (0 ≤ o ∧ o % 4 = 0 ∧ 4 ≤ (n : Int) - o)

set_option maxRecDepth 100000 in
theorem hasBytes_any (w : World) (rb n cap : Nat) (ao : Option Addr) (o m : Int) (hn : n ≤ 65536) (h4 : o ≤ 9223372036854775807) (hc0 : w.cell? ⟨rb, 0, none⟩ = some (.slice ao n cap)) :
    Calls Tryz.prog 106 #[.pointer (some ⟨rb, 0, none⟩), .int .i64 o, .int .i64 m] w fun e w' => e = .returned (.bool (hasB n o m)) ∧ w' = w := by
  obtain ⟨B, hB⟩ : ∃ B, B = hasB n o m := ⟨_, rfl⟩
  rw [← hB]
  unfold hasB at hB
  by_cases h1 : 0 ≤ o
  · by_cases h2 : 0 ≤ m
    · by_cases h3 : m ≤ n - o
      · have hb : B = true := by rw [hB]; exact decide_eq_true ⟨h1, h2, h3⟩
        clear hB
        subst hb
        go_enter Tryz.func106, Tryz.ntmps106
        go_wp2
        go_ret
        exact ⟨rfl, rfl⟩
      · have hb : B = false := by rw [hB]; exact decide_eq_false (fun h => h3 h.2.2)
        clear hB
        subst hb
        go_enter Tryz.func106, Tryz.ntmps106
        go_wp2
        go_ret
        exact ⟨rfl, rfl⟩
    · have hb : B = false := by rw [hB]; exact decide_eq_false (fun h => h2 h.2.1)
      clear hB
      subst hb
      go_enter Tryz.func106, Tryz.ntmps106
      go_wp2
      go_ret
      exact ⟨rfl, rfl⟩
  · have hb : B = false := by rw [hB]; exact decide_eq_false (fun h => h1 h.1)
    clear hB
    subst hb
    go_enter Tryz.func106, Tryz.ntmps106
    go_wp2
    go_ret
    exact ⟨rfl, rfl⟩

set_option maxRecDepth 100000 in
theorem hasWord_any (w : World) (rb n cap : Nat) (ao : Option Addr) (o : Int) (hn : n ≤ 65536) (h4 : o ≤ 9223372036854775807) (hc0 : w.cell? ⟨rb, 0, none⟩ = some (.slice ao n cap)) :
    Calls Tryz.prog 89 #[.pointer (some ⟨rb, 0, none⟩), .int .i64 o] w fun e w' => e = .returned (.bool (hasW n o)) ∧ w' = w := by
  obtain ⟨B, hB⟩ : ∃ B, B = hasW n o := ⟨_, rfl⟩
  obtain ⟨C, hC⟩ : ∃ C, C = hasB n o 4 := ⟨_, rfl⟩
  have HC := hid hC
  rw [← hB]
  by_cases h1 : 0 ≤ o
  · by_cases h2 : o % 4 = 0
    · have hb : B = C := by rw [hB, hC]; unfold hasW hasB; simp [h1, h2]
      have h3 : (o % 4 == 0) = true := by simp [h2]
      clear hB hC h2
      subst hb
      go_enter Tryz.func89, Tryz.ntmps89
      go_wp2_with fail
      refine (hasBytes_any w rb n cap ao o 4 hn h4 hc0).mono ?_
      rintro e w1 ⟨rfl, rfl⟩
      rw [← HC.out]
      clear h3 hc0
      go_wp2
      go_ret
      exact ⟨rfl, rfl⟩
    · have hb : B = false := by rw [hB]; exact decide_eq_false (fun h => h2 h.2.1)
      have h3 : (o % 4 == 0) = false := by simp [h2]
      clear hB hC h2
      subst hb
      go_enter Tryz.func89, Tryz.ntmps89
      go_wp2_with fail
      go_ret
      exact ⟨rfl, rfl⟩
  · have hb : B = false := by rw [hB]; exact decide_eq_false (fun h => h1 h.1)
    have hc : C = false := by rw [hC]; exact decide_eq_false (fun h => h1 h.1)
    clear hB hC
    subst hb
    subst hc
    by_cases h3 : (o.tmod 4 == 0) = true
    · go_enter Tryz.func89, Tryz.ntmps89
      go_wp2_with fail
      refine (hasBytes_any w rb n cap ao o 4 hn h4 hc0).mono ?_
      rintro e w1 ⟨rfl, rfl⟩
      rw [← HC.out]
      clear h3 hc0
      go_wp2
      go_ret
      exact ⟨rfl, rfl⟩
    · have h5 : (o.tmod 4 == 0) = false := by simpa using h3
      clear h3
      go_enter Tryz.func89, Tryz.ntmps89
      go_wp2_with fail
      go_ret
      exact ⟨rfl, rfl⟩
end Go.Proofs.YtgefmnnkpffpcaaGreatDoor

/- Why a call is refused: what is asked first is told by a closure. -/
namespace Go.Proofs.YtgefmnnkpffpcaaGreatDoor
open Go.RowKit

theorem not_nil (w : World) (mb n cap : Nat) : (binOp .eql 40 (.slice (some ⟨mb, 0, none⟩) n cap) (.slice none 0 0)).run Tryz.prog w = .ok (.bool false) w := by
  simpa using Lib.run_eql_slice_nil (P := Tryz.prog) w 40 5 (some ⟨mb, 0, none⟩) n cap 0 0 Tryz.underlying40

set_option maxRecDepth 100000 in
theorem set1 (w : World) (p0 p1 rb n cap : Nat) (ao : Option Addr) (o : Int) (hn : n ≤ 65536) (h4 : o ≤ 9223372036854775807) (h0 : w.cell? ⟨p0, 0, none⟩ = some (.pointer (some ⟨rb, 0, none⟩))) (h1 : w.cell? ⟨p1, 0, none⟩ = some (.int .i64 o)) (hc0 : w.cell? ⟨rb, 0, none⟩ = some (.slice ao n cap)) :
    Calls Tryz.prog 108 #[.pointer (some ⟨p0, 0, none⟩), .pointer (some ⟨p1, 0, none⟩)] w fun e w' => e = .returned (.bool (hasW n o)) ∧ w' = w := by
  go_enter Tryz.func108, Tryz.ntmps108
  go_wp2_with fail
  refine (hasWord_any w rb n cap ao o hn h4 hc0).mono ?_
  rintro e w1 ⟨rfl, rfl⟩
  go_wp2
  go_ret
  exact ⟨rfl, rfl⟩
set_option maxRecDepth 100000 in
theorem set_ref (w : World) (p0 p1 rb mb n cap : Nat) (o : Int) (hn : n ≤ 65536) (h4 : o ≤ 9223372036854775807) (h0 : w.cell? ⟨p0, 0, none⟩ = some (.pointer (some ⟨rb, 0, none⟩))) (h1 : w.cell? ⟨p1, 0, none⟩ = some (.int .i64 o)) (hc0 : w.cell? ⟨rb, 0, none⟩ = some (.slice (some ⟨mb, 0, none⟩) n cap)) :
    Calls Tryz.prog 87 #[.pointer (some ⟨rb, 0, none⟩), .func (.func 108) #[] #[.pointer (some ⟨p0, 0, none⟩), .pointer (some ⟨p1, 0, none⟩)]] w fun e w' => e = .returned (.int .i64 (if hasW n o then 0 else 2)) ∧ w' = w := by
  have hnn := fun w : World => not_nil w mb n cap
  obtain ⟨B, hB⟩ : ∃ B, hasW n o = B := ⟨_, rfl⟩
  rw [hB]
  have HB := hid hB
  clear hB
  cases B
  all_goals simp only [Bool.false_eq_true, if_false, if_true]
  all_goals go_enter Tryz.func87, Tryz.ntmps87
  all_goals go_wp2_with (go_at_call 52; go_in)
  all_goals refine (set1 w p0 p1 rb n cap (some ⟨mb, 0, none⟩) o hn h4 h0 h1 hc0).mono ?_
  all_goals rintro e w1 ⟨rfl, rfl⟩
  all_goals rw [HB.out]
  all_goals clear hnn
  all_goals go_wp2
  all_goals go_ret
  all_goals exact ⟨rfl, rfl⟩

set_option maxRecDepth 100000 in
theorem get1 (w : World) (p0 p1 rb n cap : Nat) (ao : Option Addr) (o : Int) (hn : n ≤ 65536) (h4 : o ≤ 9223372036854775807) (h0 : w.cell? ⟨p0, 0, none⟩ = some (.pointer (some ⟨rb, 0, none⟩))) (h1 : w.cell? ⟨p1, 0, none⟩ = some (.int .i64 o)) (hc0 : w.cell? ⟨rb, 0, none⟩ = some (.slice ao n cap)) :
    Calls Tryz.prog 88 #[.pointer (some ⟨p0, 0, none⟩), .pointer (some ⟨p1, 0, none⟩)] w fun e w' => e = .returned (.bool (hasW n o)) ∧ w' = w := by
  go_enter Tryz.func88, Tryz.ntmps88
  go_wp2_with fail
  refine (hasWord_any w rb n cap ao o hn h4 hc0).mono ?_
  rintro e w1 ⟨rfl, rfl⟩
  go_wp2
  go_ret
  exact ⟨rfl, rfl⟩
set_option maxRecDepth 100000 in
theorem get_ref (w : World) (p0 p1 rb mb n cap : Nat) (o : Int) (hn : n ≤ 65536) (h4 : o ≤ 9223372036854775807) (h0 : w.cell? ⟨p0, 0, none⟩ = some (.pointer (some ⟨rb, 0, none⟩))) (h1 : w.cell? ⟨p1, 0, none⟩ = some (.int .i64 o)) (hc0 : w.cell? ⟨rb, 0, none⟩ = some (.slice (some ⟨mb, 0, none⟩) n cap)) :
    Calls Tryz.prog 87 #[.pointer (some ⟨rb, 0, none⟩), .func (.func 88) #[] #[.pointer (some ⟨p0, 0, none⟩), .pointer (some ⟨p1, 0, none⟩)]] w fun e w' => e = .returned (.int .i64 (if hasW n o then 0 else 2)) ∧ w' = w := by
  have hnn := fun w : World => not_nil w mb n cap
  obtain ⟨B, hB⟩ : ∃ B, hasW n o = B := ⟨_, rfl⟩
  rw [hB]
  have HB := hid hB
  clear hB
  cases B
  all_goals simp only [Bool.false_eq_true, if_false, if_true]
  all_goals go_enter Tryz.func87, Tryz.ntmps87
  all_goals go_wp2_with (go_at_call 52; go_in)
  all_goals refine (get1 w p0 p1 rb n cap (some ⟨mb, 0, none⟩) o hn h4 h0 h1 hc0).mono ?_
  all_goals rintro e w1 ⟨rfl, rfl⟩
  all_goals rw [HB.out]
  all_goals clear hnn
  all_goals go_wp2
  all_goals go_ret
  all_goals exact ⟨rfl, rfl⟩

set_option maxRecDepth 100000 in
theorem read1 (w : World) (p0 p1 p2 rb n cap : Nat) (ao : Option Addr) (o : Int) (m : Int) (hn : n ≤ 65536) (h4 : o ≤ 9223372036854775807) (h0 : w.cell? ⟨p0, 0, none⟩ = some (.pointer (some ⟨rb, 0, none⟩))) (h1 : w.cell? ⟨p1, 0, none⟩ = some (.int .i64 o)) (h2 : w.cell? ⟨p2, 0, none⟩ = some (.int .i64 m)) (hc0 : w.cell? ⟨rb, 0, none⟩ = some (.slice ao n cap)) :
    Calls Tryz.prog 121 #[.pointer (some ⟨p0, 0, none⟩), .pointer (some ⟨p1, 0, none⟩), .pointer (some ⟨p2, 0, none⟩)] w fun e w' => e = .returned (.bool (hasB n o m)) ∧ w' = w := by
  go_enter Tryz.func121, Tryz.ntmps121
  go_wp2_with fail
  refine (hasBytes_any w rb n cap ao o m hn h4 hc0).mono ?_
  rintro e w1 ⟨rfl, rfl⟩
  go_wp2
  go_ret
  exact ⟨rfl, rfl⟩
set_option maxRecDepth 100000 in
theorem read_ref (w : World) (p0 p1 p2 rb mb n cap : Nat) (o : Int) (m : Int) (hn : n ≤ 65536) (h4 : o ≤ 9223372036854775807) (h0 : w.cell? ⟨p0, 0, none⟩ = some (.pointer (some ⟨rb, 0, none⟩))) (h1 : w.cell? ⟨p1, 0, none⟩ = some (.int .i64 o)) (h2 : w.cell? ⟨p2, 0, none⟩ = some (.int .i64 m)) (hc0 : w.cell? ⟨rb, 0, none⟩ = some (.slice (some ⟨mb, 0, none⟩) n cap)) :
    Calls Tryz.prog 87 #[.pointer (some ⟨rb, 0, none⟩), .func (.func 121) #[] #[.pointer (some ⟨p0, 0, none⟩), .pointer (some ⟨p1, 0, none⟩), .pointer (some ⟨p2, 0, none⟩)]] w fun e w' => e = .returned (.int .i64 (if hasB n o m then 0 else 2)) ∧ w' = w := by
  have hnn := fun w : World => not_nil w mb n cap
  obtain ⟨B, hB⟩ : ∃ B, hasB n o m = B := ⟨_, rfl⟩
  rw [hB]
  have HB := hid hB
  clear hB
  cases B
  all_goals simp only [Bool.false_eq_true, if_false, if_true]
  all_goals go_enter Tryz.func87, Tryz.ntmps87
  all_goals go_wp2_with (go_at_call 52; go_in)
  all_goals refine (read1 w p0 p1 p2 rb n cap (some ⟨mb, 0, none⟩) o m hn h4 h0 h1 h2 hc0).mono ?_
  all_goals rintro e w1 ⟨rfl, rfl⟩
  all_goals rw [HB.out]
  all_goals clear hnn
  all_goals go_wp2
  all_goals go_ret
  all_goals exact ⟨rfl, rfl⟩

set_option maxRecDepth 100000 in
theorem write1 (w : World) (p0 p1 p2 rb n cap : Nat) (ao : Option Addr) (o : Int) (bo : Option Addr) (m mc : Nat) (hn : n ≤ 65536) (h4 : o ≤ 9223372036854775807) (h0 : w.cell? ⟨p0, 0, none⟩ = some (.pointer (some ⟨rb, 0, none⟩))) (h1 : w.cell? ⟨p1, 0, none⟩ = some (.int .i64 o)) (h2 : w.cell? ⟨p2, 0, none⟩ = some (.slice bo m mc)) (hc0 : w.cell? ⟨rb, 0, none⟩ = some (.slice ao n cap)) :
    Calls Tryz.prog 105 #[.pointer (some ⟨p0, 0, none⟩), .pointer (some ⟨p1, 0, none⟩), .pointer (some ⟨p2, 0, none⟩)] w fun e w' => e = .returned (.bool (hasB n o m)) ∧ w' = w := by
  go_enter Tryz.func105, Tryz.ntmps105
  go_wp2_with fail
  refine (hasBytes_any w rb n cap ao o m hn h4 hc0).mono ?_
  rintro e w1 ⟨rfl, rfl⟩
  go_wp2
  go_ret
  exact ⟨rfl, rfl⟩
set_option maxRecDepth 100000 in
theorem write_ref (w : World) (p0 p1 p2 rb mb n cap : Nat) (o : Int) (bo : Option Addr) (m mc : Nat) (hn : n ≤ 65536) (h4 : o ≤ 9223372036854775807) (h0 : w.cell? ⟨p0, 0, none⟩ = some (.pointer (some ⟨rb, 0, none⟩))) (h1 : w.cell? ⟨p1, 0, none⟩ = some (.int .i64 o)) (h2 : w.cell? ⟨p2, 0, none⟩ = some (.slice bo m mc)) (hc0 : w.cell? ⟨rb, 0, none⟩ = some (.slice (some ⟨mb, 0, none⟩) n cap)) :
    Calls Tryz.prog 87 #[.pointer (some ⟨rb, 0, none⟩), .func (.func 105) #[] #[.pointer (some ⟨p0, 0, none⟩), .pointer (some ⟨p1, 0, none⟩), .pointer (some ⟨p2, 0, none⟩)]] w fun e w' => e = .returned (.int .i64 (if hasB n o m then 0 else 2)) ∧ w' = w := by
  have hnn := fun w : World => not_nil w mb n cap
  obtain ⟨B, hB⟩ : ∃ B, hasB n o m = B := ⟨_, rfl⟩
  rw [hB]
  have HB := hid hB
  clear hB
  cases B
  all_goals simp only [Bool.false_eq_true, if_false, if_true]
  all_goals go_enter Tryz.func87, Tryz.ntmps87
  all_goals go_wp2_with (go_at_call 52; go_in)
  all_goals refine (write1 w p0 p1 p2 rb n cap (some ⟨mb, 0, none⟩) o bo m mc hn h4 h0 h1 h2 hc0).mono ?_
  all_goals rintro e w1 ⟨rfl, rfl⟩
  all_goals rw [HB.out]
  all_goals clear hnn
  all_goals go_wp2
  all_goals go_ret
  all_goals exact ⟨rfl, rfl⟩
end Go.Proofs.YtgefmnnkpffpcaaGreatDoor
