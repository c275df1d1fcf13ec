/- Which bytes and words an arena has. -/
import Derived.Test.YtgefmnnkpffpcaaGreatDoorBaseJ
namespace Go.Proofs.YtgefmnnkpffpcaaGreatDoor
open Go.RowKit

/-- Are these m bytes from o on there? -/
def hasB (n : Nat) (o m : Int) : Bool := decide (0 ≤ o ∧ 0 ≤ m ∧ m ≤ n - o)
def hasW (n : Nat) (o : Int) : Bool := decide (0 ≤ o ∧ o % 4 = 0 ∧ 4 ≤ (n : Int) - o)

set_option maxRecDepth 100000 in
theorem hasBytes_any (w : World) (rb n cap : Nat) (ao : Option Addr) (o m : Int) (hn : n ≤ 65536) (h4 : o ≤ 9223372036854775807) (hc0 : w.cell? ⟨rb, 0, none⟩ = some (.slice ao n cap)) :
    Calls Tryz.prog 106 #[.pointer (some ⟨rb, 0, none⟩), .int .i64 o, .int .i64 m] w fun e w' => e = .returned (.bool (hasB n o m)) ∧ w' = w := by
  obtain ⟨B, hB⟩ : ∃ B, B = hasB n o m := ⟨_, rfl⟩
  rw [← hB]
  unfold hasB at hB
  by_cases h1 : 0 ≤ o
  · by_cases h2 : 0 ≤ m
    · by_cases h3 : m ≤ n - o
      · have hb : B = true := by rw [hB]; exact decide_eq_true ⟨h1, h2, h3⟩
        clear hB
        subst hb
        go_enter Tryz.func106, Tryz.ntmps106
        go_wp2
        go_ret
        exact ⟨rfl, rfl⟩
      · have hb : B = false := by rw [hB]; exact decide_eq_false (fun h => h3 h.2.2)
        clear hB
        subst hb
        go_enter Tryz.func106, Tryz.ntmps106
        go_wp2
        go_ret
        exact ⟨rfl, rfl⟩
    · have hb : B = false := by rw [hB]; exact decide_eq_false (fun h => h2 h.2.1)
      clear hB
      subst hb
      go_enter Tryz.func106, Tryz.ntmps106
      go_wp2
      go_ret
      exact ⟨rfl, rfl⟩
  · have hb : B = false := by rw [hB]; exact decide_eq_false (fun h => h1 h.1)
    clear hB
    subst hb
    go_enter Tryz.func106, Tryz.ntmps106
    go_wp2
    go_ret
    exact ⟨rfl, rfl⟩

set_option maxRecDepth 100000 in
theorem hasWord_any (w : World) (rb n cap : Nat) (ao : Option Addr) (o : Int) (hn : n ≤ 65536) (h4 : o ≤ 9223372036854775807) (hc0 : w.cell? ⟨rb, 0, none⟩ = some (.slice ao n cap)) :
    Calls Tryz.prog 89 #[.pointer (some ⟨rb, 0, none⟩), .int .i64 o] w fun e w' => e = .returned (.bool (hasW n o)) ∧ w' = w := by
  obtain ⟨B, hB⟩ : ∃ B, B = hasW n o := ⟨_, rfl⟩
  obtain ⟨C, hC⟩ : ∃ C, C = hasB n o 4 := ⟨_, rfl⟩
  have HC := hid hC
  rw [← hB]
  by_cases h1 : 0 ≤ o
  · by_cases h2 : o % 4 = 0
    · have hb : B = C := by rw [hB, hC]; unfold hasW hasB; simp [h1, h2]
      have h3 : (o % 4 == 0) = true := by simp [h2]
      clear hB hC h2
      subst hb
      go_enter Tryz.func89, Tryz.ntmps89
      go_wp2_with fail
      refine (hasBytes_any w rb n cap ao o 4 hn h4 hc0).mono ?_
      rintro e w1 ⟨rfl, rfl⟩
      rw [← HC.out]
      clear h3 hc0
      go_wp2
      go_ret
      exact ⟨rfl, rfl⟩
    · have hb : B = false := by rw [hB]; exact decide_eq_false (fun h => h2 h.2.1)
      have h3 : (o % 4 == 0) = false := by simp [h2]
      clear hB hC h2
      subst hb
      go_enter Tryz.func89, Tryz.ntmps89
      go_wp2_with fail
      go_ret
      exact ⟨rfl, rfl⟩
  · have hb : B = false := by rw [hB]; exact decide_eq_false (fun h => h1 h.1)
    have hc : C = false := by rw [hC]; exact decide_eq_false (fun h => h1 h.1)
    clear hB hC
    subst hb
    subst hc
    by_cases h3 : (o.tmod 4 == 0) = true
    · go_enter Tryz.func89, Tryz.ntmps89
      go_wp2_with fail
      refine (hasBytes_any w rb n cap ao o 4 hn h4 hc0).mono ?_
      rintro e w1 ⟨rfl, rfl⟩
      rw [← HC.out]
      clear h3 hc0
      go_wp2
      go_ret
      exact ⟨rfl, rfl⟩
    · have h5 : (o.tmod 4 == 0) = false := by simpa using h3
      clear h3
      go_enter Tryz.func89, Tryz.ntmps89
      go_wp2_with fail
      go_ret
      exact ⟨rfl, rfl⟩
end Go.Proofs.YtgefmnnkpffpcaaGreatDoor
