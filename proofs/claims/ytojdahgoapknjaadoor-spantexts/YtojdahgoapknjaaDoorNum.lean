/- May, num, half, carried; the reference's May, all, of. -/
import Derived.Test.YtojdahgoapknjaaDoorBase
import Derived.WalkMore
import Derived.Deep.QuietTactic
namespace Go.Proofs.YtojdahgoapknjaaDoor
open Go.RowKit

theorem Kp.store {w w1 : World} {b i : Nat} {v : Value} (h : Kp w w1 []) (hb : w.heap.size ≤ b) : Kp w (w1.setCell ⟨b, i, none⟩ v) [] :=
  h.past (Kp.setCell _ _ _) (by intro k hk hl; simp at hk; omega)

set_option maxRecDepth 100000 in
theorem num_any (w : World) (e : Int) : Calls Tryd.prog 17 #[.int .i64 e] w fun x w' => x = .returned (.int .i64 e) ∧ w' = w := by
  go_enter Tryd.func17, Tryd.ntmps17
  go_wp2
  go_ret
  exact ⟨rfl, rfl⟩

set_option maxRecDepth 100000 in
theorem may_any (w : World) (s n : Int) : Calls Tryd.prog 15 #[sp s n] w fun e w' => e = .returned (.bool (may s n)) ∧ Kp w w' [] := by
  by_cases h1 : 0 ≤ s
  · by_cases h2 : s ≤ 2147483647
    · by_cases h3 : 0 ≤ n
      · by_cases h4 : n < 1000000000
        · rw [show may s n = true by simp [may, h1, h2, h3, h4]]
          go_enter Tryd.func15, Tryd.ntmps15
          go_wp2
          go_ret
          exact ⟨rfl, Kp.alloc _ _ _⟩
        · rw [show may s n = false by simp [may, h4]]
          go_enter Tryd.func15, Tryd.ntmps15
          go_wp2
          go_ret
          exact ⟨rfl, Kp.alloc _ _ _⟩
      · rw [show may s n = false by simp [may, h3]]
        go_enter Tryd.func15, Tryd.ntmps15
        go_wp2
        go_ret
        exact ⟨rfl, Kp.alloc _ _ _⟩
    · rw [show may s n = false by simp [may, h2]]
      go_enter Tryd.func15, Tryd.ntmps15
      go_wp2
      go_ret
      exact ⟨rfl, Kp.alloc _ _ _⟩
  · rw [show may s n = false by simp [may, h1]]
    go_enter Tryd.func15, Tryd.ntmps15
    go_wp2
    go_ret
    exact ⟨rfl, Kp.alloc _ _ _⟩
set_option maxRecDepth 100000 in
theorem rmay_any (w : World) (s n : Int) : Calls Tryd.prog 16 #[sp s n] w fun e w' => e = .returned (.bool (may s n)) ∧ Kp w w' [] := by
  by_cases h1 : 0 ≤ s
  · by_cases h2 : s ≤ 2147483647
    · by_cases h3 : 0 ≤ n
      · by_cases h4 : n < 1000000000
        · rw [show may s n = true by simp [may, h1, h2, h3, h4]]
          go_enter Tryd.func16, Tryd.ntmps16
          go_wp2
          go_ret
          exact ⟨rfl, Kp.alloc _ _ _⟩
        · rw [show may s n = false by simp [may, h4]]
          go_enter Tryd.func16, Tryd.ntmps16
          go_wp2
          go_ret
          exact ⟨rfl, Kp.alloc _ _ _⟩
      · rw [show may s n = false by simp [may, h3]]
        go_enter Tryd.func16, Tryd.ntmps16
        go_wp2
        go_ret
        exact ⟨rfl, Kp.alloc _ _ _⟩
    · rw [show may s n = false by simp [may, h2]]
      go_enter Tryd.func16, Tryd.ntmps16
      go_wp2
      go_ret
      exact ⟨rfl, Kp.alloc _ _ _⟩
  · rw [show may s n = false by simp [may, h1]]
    go_enter Tryd.func16, Tryd.ntmps16
    go_wp2
    go_ret
    exact ⟨rfl, Kp.alloc _ _ _⟩
set_option maxRecDepth 100000 in
theorem half_any (w : World) (s : Int) : Calls Tryd.prog 32 #[.int .i64 s] w fun x w' => x = .returned (sp s 500000000) ∧ Kp w w' [] := by
  go_enter Tryd.func32, Tryd.ntmps32
  go_wp2
  exact bodyPost_ret (v := sp s 500000000) (by simp [results, Tryd.results32, go_sem]) rfl ⟨rfl, Kp.alloc _ _ _⟩

/-- Seconds and nanoseconds, carried. -/
def carP (s n : Int) : Int × Int := if 1000000000 ≤ n then (s + n / 1000000000, n % 1000000000) else if n < 0 then (s - 1, n + 1000000000) else (s, n)
set_option maxRecDepth 100000 in
theorem carried_any (w : World) (s n : Int) (hs : -4294967296 ≤ s ∧ s ≤ 4294967296) (hn : -4611686018427387904 ≤ n ∧ n ≤ 4611686018427387904) :
    Calls Tryd.prog 29 #[.int .i64 s, .int .i64 n] w fun x w' => x = .returned (sp (carP s n).1 (carP s n).2) ∧ Kp w w' [] := by
  by_cases h1 : 1000000000 ≤ n
  · have e : carP s n = (s + n / 1000000000, n % 1000000000) := by unfold carP; rw [if_pos h1]
    have d1 : n.tdiv 1000000000 = n / 1000000000 := Int.tdiv_eq_ediv_of_nonneg (by omega)
    have d2 : n.tmod 1000000000 = n % 1000000000 := Int.tmod_eq_emod_of_nonneg (by omega)
    have d3 : IntKind.i64.wrap (n / 1000000000) = n / 1000000000 := wrap_id ⟨by omega, by omega⟩
    have d4 : IntKind.i64.wrap (n % 1000000000) = n % 1000000000 := wrap_id ⟨by omega, by omega⟩
    have d5 : IntKind.i64.wrap (s + n / 1000000000) = s + n / 1000000000 := wrap_id ⟨by omega, by omega⟩
    rw [e]
    clear e
    go_enter Tryd.func29, Tryd.ntmps29
    go_wp2
    exact bodyPost_ret (v := sp (s + n / 1000000000) (n % 1000000000)) (by simp [results, Tryd.results29, go_sem]) rfl ⟨rfl, Kp.alloc _ _ _⟩
  · by_cases h2 : n < 0
    · have e : carP s n = (s - 1, n + 1000000000) := by unfold carP; rw [if_neg h1, if_pos h2]
      rw [e]
      clear e
      go_enter Tryd.func29, Tryd.ntmps29
      go_wp2
      exact bodyPost_ret (v := sp (s - 1) (n + 1000000000)) (by simp [results, Tryd.results29, go_sem]) rfl ⟨rfl, Kp.alloc _ _ _⟩
    · have e : carP s n = (s, n) := by unfold carP; rw [if_neg h1, if_neg h2]
      rw [e]
      clear e
      go_enter Tryd.func29, Tryd.ntmps29
      go_wp2
      exact bodyPost_ret (v := sp s n) (by simp [results, Tryd.results29, go_sem]) rfl ⟨rfl, Kp.alloc _ _ _⟩

set_option maxRecDepth 100000 in
theorem all_any (w : World) (s n : Int) (h : may s n = true) : Calls Tryd.prog 31 #[sp s n] w fun x w' => x = .returned (.int .i64 (tot s n)) ∧ Kp w w' [] := by
  obtain ⟨h1, h2, h3, h4⟩ := may_iff.1 h
  clear h
  rw [show tot s n = s * 1000000000 + n from rfl]
  go_enter Tryd.func31, Tryd.ntmps31
  go_wp2
  go_ret
  exact ⟨rfl, Kp.alloc _ _ _⟩

set_option maxRecDepth 100000 in
theorem of_any (w : World) (t : Int) (h0 : 0 ≤ t) (h1 : t ≤ 4611686018427387904) : Calls Tryd.prog 30 #[.int .i64 t] w fun x w' => x = .returned (spE (ofN t)) ∧ Kp w w' [] := by
  have d1 : t.tdiv 1000000000 = t / 1000000000 := Int.tdiv_eq_ediv_of_nonneg (by omega)
  have d2 : t.tmod 1000000000 = t % 1000000000 := Int.tmod_eq_emod_of_nonneg (by omega)
  have d3 : IntKind.i64.wrap (t / 1000000000) = t / 1000000000 := wrap_id ⟨by omega, by omega⟩
  have d4 : IntKind.i64.wrap (t % 1000000000) = t % 1000000000 := wrap_id ⟨by omega, by omega⟩
  by_cases h : t / 1000000000 > 2147483647
  · have e : ofN t = (0, 0, 5) := by unfold ofN; rw [if_pos h]
    have h' : (2147483647 : Int) < t / 1000000000 := h
    rw [e]
    clear e h
    go_enter Tryd.func30, Tryd.ntmps30
    go_wp2
    exact bodyPost_ret (v := spE (0, 0, 5)) (by simp [results, Tryd.results30, go_sem]) rfl ⟨rfl, Kp.alloc _ _ _⟩
  · have e : ofN t = (t / 1000000000, t % 1000000000, 0) := by unfold ofN; rw [if_neg h]
    have h' : t / 1000000000 ≤ 2147483647 := by omega
    rw [e]
    clear e h
    go_enter Tryd.func30, Tryd.ntmps30
    go_wp2
    exact bodyPost_ret (v := spE (t / 1000000000, t % 1000000000, 0)) (by simp [results, Tryd.results30, go_sem]) rfl ⟨rfl, Kp.alloc _ _ _⟩
end Go.Proofs.YtojdahgoapknjaaDoor
