/- A word's four bytes: split and joined. -/
import Derived.Test.YtgefmnnkpffpcaaGreatDoorBaseJ
import Derived.Laws.BitsAllLaws
import Derived.WalkMore
namespace Go.Proofs.YtgefmnnkpffpcaaGreatDoor
open Go.RowKit

theorem or_add (k : Nat) (m x P : Int) (hP : P = ((2 ^ k : Nat) : Int)) (hm0 : 0 ≤ m) (hm : m < P) (hx0 : 0 ≤ x) (hb : x * P + P ≤ 4294967296) : bits .or .u32 m (x * P) = m + x * P := by
  subst hP
  have hmul : 0 ≤ x * ((2 ^ k : Nat) : Int) := Int.mul_nonneg hx0 (by omega)
  obtain ⟨m', rfl⟩ := Int.eq_ofNat_of_zero_le hm0
  obtain ⟨x', rfl⟩ := Int.eq_ofNat_of_zero_le hx0
  have hm' : m' < 2 ^ k := by exact_mod_cast hm
  have e : (x' : Int) * ((2 ^ k : Nat) : Int) = ((x' * 2 ^ k : Nat) : Int) := by push_cast; rfl
  rw [e] at hb hmul ⊢
  rw [u32_or_nat m' (x' * 2 ^ k) (by omega) (by omega)]
  have h := Nat.shiftLeft_add_eq_or_of_lt hm' x'
  rw [Nat.shiftLeft_eq] at h
  rw [Nat.or_comm, ← h]
  omega

theorem or_zero (x : Int) (h0 : 0 ≤ x) (h : x < 4294967296) : bits .or .u32 0 x = x := by
  obtain ⟨x', rfl⟩ := Int.eq_ofNat_of_zero_le h0
  have := u32_or_nat 0 x' (by omega) (by omega)
  simpa using this

/-- The word that four bytes are. -/
def word (a b c d : Int) : Int := a + b * 256 + c * 65536 + d * 16777216
theorem or8 (m x : Int) (h0 : 0 ≤ m) (h1 : m < 256) (h2 : 0 ≤ x) (h3 : x < 256) : bits .or .u32 m (x * 256) = m + x * 256 := or_add 8 m x 256 (by decide) h0 h1 h2 (by omega)
theorem or16 (m x : Int) (h0 : 0 ≤ m) (h1 : m < 65536) (h2 : 0 ≤ x) (h3 : x < 256) : bits .or .u32 m (x * 65536) = m + x * 65536 := or_add 16 m x 65536 (by decide) h0 h1 h2 (by omega)
theorem or24 (m x : Int) (h0 : 0 ≤ m) (h1 : m < 16777216) (h2 : 0 ≤ x) (h3 : x < 256) : bits .or .u32 m (x * 16777216) = m + x * 16777216 := or_add 24 m x 16777216 (by decide) h0 h1 h2 (by omega)

set_option maxRecDepth 100000 in
set_option maxHeartbeats 2000000 in
theorem split_any (w : World) (x : Int) (h0 : 0 ≤ x) (h1 : x < 4294967296) : Calls Tryz.prog 109 #[.int .u32 x] w fun e w' => e = .returned (.agg #[.int .u8 (x % 256), .int .u8 (x / 256 % 256), .int .u8 (x / 65536 % 256), .int .u8 (x / 16777216)]) ∧ Kp w w' [] := by
  go_enter Tryz.func109, Tryz.ntmps109
  go_wp2
  refine wp_loop_rounds 5 ?_
  rw [rounds_succ]
  go_wp2
  rw [rounds_succ]
  go_wp2
  rw [rounds_succ]
  go_wp2
  rw [rounds_succ]
  go_wp2
  rw [rounds_succ]
  go_wp2
  refine bodyPost_ret (v := .agg #[.int .u8 (x % 256), .int .u8 (x / 256 % 256), .int .u8 (x / 65536 % 256), .int .u8 (x / 16777216)]) (by simp [results, go_sem]) rfl ⟨rfl, ?_⟩
  exact (Kp.alloc _ _ _).trans (Kp.alloc _ _ _)

theorem ret_eq {x y : Int} (h : x = y) : Ending.returned (.int .u32 x) = .returned (.int .u32 y) := by rw [h]
theorem index4 (a b c d : Int) (w : World) : (Instr.index 101 (.agg #[.int .u8 a, .int .u8 b, .int .u8 c, .int .u8 d]) (.int .i64 0)).run Tryz.prog w = .ok (.int .u8 a) w ∧ (Instr.index 101 (.agg #[.int .u8 a, .int .u8 b, .int .u8 c, .int .u8 d]) (.int .i64 1)).run Tryz.prog w = .ok (.int .u8 b) w ∧ (Instr.index 101 (.agg #[.int .u8 a, .int .u8 b, .int .u8 c, .int .u8 d]) (.int .i64 2)).run Tryz.prog w = .ok (.int .u8 c) w ∧ (Instr.index 101 (.agg #[.int .u8 a, .int .u8 b, .int .u8 c, .int .u8 d]) (.int .i64 3)).run Tryz.prog w = .ok (.int .u8 d) w :=
  ⟨by kernel_rfl, by kernel_rfl, by kernel_rfl, by kernel_rfl⟩

set_option linter.unusedSimpArgs false in
set_option maxRecDepth 100000 in
set_option maxHeartbeats 4000000 in
theorem joined_any (w : World) (a b c d : Int) (ha : 0 ≤ a ∧ a < 256) (hb : 0 ≤ b ∧ b < 256) (hc : 0 ≤ c ∧ c < 256) (hd : 0 ≤ d ∧ d < 256) : Calls Tryz.prog 90 #[.agg #[.int .u8 a, .int .u8 b, .int .u8 c, .int .u8 d]] w fun e w' => e = .returned (.int .u32 (word a b c d)) ∧ Kp w w' [] := by
  have hix := index4 a b c d
  go_enter Tryz.func90, Tryz.ntmps90
  go_wp2
  go_step3
  go_wp2
  go_step3
  go_wp2
  refine wp_loop_rounds 5 ?_
  rw [rounds_succ]
  have e0 := or_zero a ha.1 (by omega)
  go_wp2
  all_goals rw [rounds_succ]
  all_goals go_wp2
  all_goals rw [rounds_succ]
  all_goals go_wp2
  all_goals rw [rounds_succ]
  all_goals go_wp2
  all_goals rw [rounds_succ]
  all_goals go_wp2
  all_goals rw [Exit.noGoto_ret]
  all_goals go_ret
  all_goals refine ⟨?_, Kp.alloc _ _ _⟩
  all_goals (try have za : a = 0 := by simpa using ‹(a == 0) = true›)
  all_goals (try have zb : b = 0 := by simpa using ‹(b == 0) = true›)
  all_goals (try have zc : c = 0 := by simpa using ‹(c == 0) = true›)
  all_goals (try have zd : d = 0 := by simpa using ‹(d == 0) = true›)
  all_goals try simp (disch := omega) only [or_zero, or8, or16, or24]
  all_goals exact ret_eq (by unfold word; omega)
end Go.Proofs.YtgefmnnkpffpcaaGreatDoor
