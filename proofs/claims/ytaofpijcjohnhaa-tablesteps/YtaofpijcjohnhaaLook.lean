/- New, Places, Of, At. -/
import Derived.Test.YtaofpijcjohnhaaBase
namespace Go.Proofs.Ytaofpijcjohnhaa
open Go.RowKit

/-- All places free, of no generation. -/
def T0 : Pl := fun _ => (false, 0)
theorem tcs0 (n : Int) : tcs n T0 = #[.int .i64 n, .bool false, .int .i64 0, .bool false, .int .i64 0, .bool false, .int .i64 0, .bool false, .int .i64 0, .bool false, .int .i64 0, .bool false, .int .i64 0, .bool false, .int .i64 0, .bool false, .int .i64 0, .bool false, .int .i64 0, .bool false, .int .i64 0, .bool false, .int .i64 0, .bool false, .int .i64 0, .bool false, .int .i64 0, .bool false, .int .i64 0, .bool false, .int .i64 0, .bool false, .int .i64 0] := rfl

set_option maxRecDepth 100000 in
theorem new_no (w : World) (n : Int) (h : ¬ (1 ≤ n ∧ n ≤ 16)) : Calls Try.prog 7 #[.int .i64 n] w fun e w' => e = .returned (.tuple #[.pointer none, .int .i64 2]) ∧ w' = w := by
  by_cases h1 : n < 1
  · clear h
    go_enter Try.func7, Try.ntmps7
    go_wp2
    go_ret2
    exact ⟨rfl, rfl⟩
  · have h2 : 16 < n := by omega
    clear h
    go_enter Try.func7, Try.ntmps7
    go_wp2
    go_ret2
    exact ⟨rfl, rfl⟩

set_option maxRecDepth 100000 in
theorem new_ok (w : World) (n : Int) (h1 : 1 ≤ n) (h2 : n ≤ 16) : Calls Try.prog 7 #[.int .i64 n] w fun e w' => e = .returned (.tuple #[.pointer (some ⟨w.heap.size, 0, none⟩), .int .i64 0]) ∧ w' = w.alloc (.cells (tcs n T0) 55) := by
  rw [tcs0]
  go_enter Try.func7, Try.ntmps7
  go_wp2
  go_ret2
  exact ⟨rfl, rfl⟩

set_option maxRecDepth 100000 in
theorem zero_ok (w : World) (tb : Nat) (n : Int) (T : Pl) (h : Tt w tb n T) (h1 : 1 ≤ n) : Calls Try.prog 29 #[.pointer (some ⟨tb, 0, none⟩)] w fun e w' => e = .returned (.bool false) ∧ w' = w := by
  have c0 := h.count
  have hn : (n == 0) = false := by simp; omega
  clear h
  go_enter Try.func29, Try.ntmps29
  go_wp2
  go_ret
  exact ⟨rfl, rfl⟩

set_option maxRecDepth 100000 in
theorem places_ok (w : World) (tb : Nat) (n : Int) (T : Pl) (h : Tt w tb n T) (h1 : 1 ≤ n) : Calls Try.prog 27 #[.pointer (some ⟨tb, 0, none⟩)] w fun e w' => e = .returned (.int .i64 n) ∧ w' = w := by
  have cz := zero_ok w tb n T h h1
  have c0 := h.count
  clear h
  go_enter Try.func27, Try.ntmps27
  go_wp2_with (go_at_call 29; refine cz.mono ?_; rintro e w' ⟨rfl, rfl⟩)
  go_ret
  exact ⟨rfl, rfl⟩

set_option maxRecDepth 100000 in
theorem handle_any (w : World) (t : Bool) (g : Int) (i : Int) (hg : 0 ≤ g ∧ g ≤ 1000000) (hi : 0 ≤ i ∧ i < 16) : Calls Try.prog 31 #[.agg #[.bool t, .int .i64 g], .int .i64 i] w fun e w' => e = .returned (.int .i64 (i + 16 * g)) ∧ Kp w w' [] := by
  go_enter Try.func31, Try.ntmps31
  go_wp2
  go_ret
  exact ⟨rfl, Kp.alloc _ _ _⟩

theorem ofB_true {T : Pl} {n i : Int} (h0 : 0 ≤ i) (h1 : i < n) (ht : (T i.toNat).1 = true) : ofB T n i = true ∧ ofV T n i = i + 16 * (T i.toNat).2 := by
  have : ofB T n i = true := by unfold ofB; simp [h0, h1, ht]
  exact ⟨this, by unfold ofV; rw [if_pos this]⟩
theorem ofB_false {T : Pl} {n i : Int} (h : ¬ (0 ≤ i ∧ i < n ∧ (T i.toNat).1 = true)) : ofB T n i = false ∧ ofV T n i = 0 := by
  have : ofB T n i = false := by
    cases e : ofB T n i with
    | false => rfl
    | true =>
      unfold ofB at e
      simp only [Bool.and_eq_true, decide_eq_true_eq] at e
      exact absurd ⟨e.1.1, e.1.2, e.2⟩ h
  exact ⟨this, by unfold ofV; simp [this]⟩

set_option maxRecDepth 100000 in
theorem of_any (w : World) (tb : Nat) (n : Int) (T : Pl) (i : Int) (h : Tt w tb n T) (hg : Gd T) (h1 : 1 ≤ n) (h2 : n ≤ 16) : Calls Try.prog 21 #[.pointer (some ⟨tb, 0, none⟩), .int .i64 i] w fun e w' => e = .returned (.tuple #[.int .i64 (ofV T n i), .bool (ofB T n i)]) ∧ Kp w w' [] := by
  have cp := places_ok w tb n T h h1
  by_cases ha : i < 0
  · obtain ⟨e1, e2⟩ := ofB_false (T := T) (n := n) (i := i) (by omega)
    rw [e1, e2]
    clear h e1 e2
    go_enter Try.func21, Try.ntmps21
    go_wp2
    go_ret2
    exact ⟨rfl, Kp.refl _ _⟩
  by_cases hb : n ≤ i
  · obtain ⟨e1, e2⟩ := ofB_false (T := T) (n := n) (i := i) (by omega)
    rw [e1, e2]
    clear h e1 e2
    go_enter Try.func21, Try.ntmps21
    go_wp2_with (go_at_call 27; refine cp.mono ?_; rintro e w' ⟨rfl, rfl⟩)
    go_ret2
    exact ⟨rfl, Kp.refl _ _⟩
  obtain ⟨k, rfl⟩ : ∃ k : Nat, i = k := ⟨i.toNat, by omega⟩
  have hk : k < 16 := by omega
  have ct := h.taken k hk
  have cg := h.gen k hk
  have hgk := hg k hk
  cases ht : (T k).1 with
  | false =>
    obtain ⟨e1, e2⟩ := ofB_false (T := T) (n := n) (i := k) (by simp [ht])
    rw [e1, e2]
    rw [ht] at ct
    clear h e1 e2 hg
    go_enter Try.func21, Try.ntmps21
    go_wp2_with (go_at_call 27; refine cp.mono ?_; rintro e w' ⟨rfl, rfl⟩)
    go_ret2
    exact ⟨rfl, Kp.refl _ _⟩
  | true =>
    obtain ⟨e1, e2⟩ := ofB_true (T := T) (n := n) (i := k) (by omega) (by omega) (by simpa using ht)
    rw [e1, e2]
    rw [ht] at ct
    simp only [Int.toNat_natCast]
    have ch := handle_any w true (T k).2 k hgk (by omega)
    clear h e1 e2 hg
    go_enter Try.func21, Try.ntmps21
    go_wp2_with (first | (go_at_call 27; refine cp.mono ?_; rintro e w' ⟨rfl, rfl⟩) | (go_at_call 31; refine ch.mono ?_; rintro e w' ⟨rfl, hK⟩))
    go_ret2
    exact ⟨rfl, hK⟩

theorem tmod_bound (h : Int) : -16 < h.tmod 16 ∧ h.tmod 16 < 16 := ⟨Int.lt_tmod_of_pos h (by decide), Int.tmod_lt_of_pos h (by decide)⟩

set_option maxRecDepth 100000 in
theorem at_any (w : World) (tb : Nat) (n : Int) (T : Pl) (x : Int) (h : Tt w tb n T) (hg : Gd T) (h1 : 1 ≤ n) (h2 : n ≤ 16) : Calls Try.prog 12 #[.pointer (some ⟨tb, 0, none⟩), .int .i64 x] w fun e w' => e = .returned (.tuple #[.int .i64 (atV T n x), .bool (atB T n x)]) ∧ Kp w w' [] := by
  have co := of_any w tb n T (x.tmod 16) h hg h1 h2
  have hb := tmod_bound x
  obtain ⟨r, hr⟩ : ∃ r, x.tmod 16 = r := ⟨_, rfl⟩
  unfold atV atB
  rw [hr] at co hb ⊢
  cases e : ofB T n r with
  | false =>
    rw [e] at co
    simp only [Bool.false_and, Bool.false_eq_true, if_false]
    clear h e hg
    go_enter Try.func12, Try.ntmps12
    go_wp2_with (go_at_call 21; refine co.mono ?_; rintro e w' ⟨rfl, hK⟩)
    go_ret2
    exact ⟨rfl, hK⟩
  | true =>
    rw [e] at co
    simp only [Bool.true_and]
    obtain ⟨v, hv⟩ : ∃ v, ofV T n r = v := ⟨_, rfl⟩
    rw [hv] at co ⊢
    by_cases hx : v = x
    · have hx' : (v == x) = true := by simp [hx]
      rw [hx']
      simp only [if_true]
      have hx2 : (v != x) = false := by simp [hx]
      clear h e hg hx
      go_enter Try.func12, Try.ntmps12
      go_wp2_with (go_at_call 21; refine co.mono ?_; rintro e w' ⟨rfl, hK⟩)
      go_ret2
      exact ⟨rfl, hK⟩
    · have hx' : (v == x) = false := by simp [hx]
      rw [hx']
      simp only [Bool.false_eq_true, if_false]
      have hx2 : (v != x) = true := by simp [hx]
      clear h e hg hx
      go_enter Try.func12, Try.ntmps12
      go_wp2_with (go_at_call 21; refine co.mono ?_; rintro e w' ⟨rfl, hK⟩)
      go_ret2
      exact ⟨rfl, hK⟩
end Go.Proofs.Ytaofpijcjohnhaa
