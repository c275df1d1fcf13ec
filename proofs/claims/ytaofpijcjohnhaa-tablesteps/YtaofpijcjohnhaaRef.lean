/- The reference: New, Of, At. -/
import Derived.Test.YtaofpijcjohnhaaInv
import Derived.Test.YtaofpijcjohnhaaLen
import Derived.Laws.AppendOwn
namespace Go.Proofs.Ytaofpijcjohnhaa
open Go.RowKit

/-- The reference's table at block rb: its n places, T, at block mb. -/
structure Rt (w : World) (rb mb n : Nat) (T : Pl) : Prop where
  hd : w.heap[rb]? = some (.cells #[.slice (some ⟨mb, 0, none⟩) n n] 58 (0, 0))
  bd : w.heap[mb]? = some (.cells (pcl T n 0).toArray 70 (0, 0))
section
variable {w w' : World} {rb mb n : Nat} {T : Pl}
theorem Rt.keep (h : Rt w rb mb n T) {rows : List Nat} (hk : Kp w w' rows) (h1 : rb ∉ rows) (h2 : mb ∉ rows) : Rt w' rb mb n T :=
  ⟨(hk.block rb (lt_of_block h.hd) h1).trans h.hd, (hk.block mb (lt_of_block h.bd) h2).trans h.bd⟩
theorem Rt.cell (h : Rt w rb mb n T) : w.cell? ⟨rb, 0, none⟩ = some (.slice (some ⟨mb, 0, none⟩) n n) := cell_one h.hd
theorem Rt.taken (h : Rt w rb mb n T) (i : Nat) (hi : i < n) : w.cell? ⟨mb, i * 2, none⟩ = some (.bool (T i).1) := by
  rw [cell_of_row w mb _ _ _ _ h.bd]
  have := (pcl_at T n 0 i hi).1
  rw [Nat.zero_add] at this
  simpa using this
theorem Rt.gen (h : Rt w rb mb n T) (i : Nat) (hi : i < n) : w.cell? ⟨mb, i * 2 + 1, none⟩ = some (.int .i64 (T i).2) := by
  rw [cell_of_row w mb _ _ _ _ h.bd]
  have := (pcl_at T n 0 i hi).2
  rw [Nat.zero_add] at this
  simpa using this
theorem Rt.free (h : Rt w rb mb n T) (i : Nat) : w.frozen? ⟨mb, i, none⟩ = false := by simp [World.frozen?, h.bd]
theorem Rt.ne (h : Rt w rb mb n T) : rb ≠ mb := by
  rintro rfl
  have := h.hd
  rw [h.bd] at this
  simp at this
theorem Rt.setTaken (h : Rt w rb mb n T) (i : Nat) (hi : i < n) (b : Bool) : Rt (w.setCell ⟨mb, i * 2, none⟩ (.bool b)) rb mb n (upd T i (b, (T i).2)) := by
  refine ⟨(Below.heap_setCell _ _ _ _ h.ne).trans h.hd, ?_⟩
  rw [heap_setCell_same w mb (i * 2) _ 70 _ h.bd]
  have := pcl_set0 T n 0 i hi b
  rw [Nat.zero_add] at this
  simp only [← this, List.setIfInBounds_toArray]
theorem Rt.setGen (h : Rt w rb mb n T) (i : Nat) (hi : i < n) (g : Int) : Rt (w.setCell ⟨mb, i * 2 + 1, none⟩ (.int .i64 g)) rb mb n (upd T i ((T i).1, g)) := by
  refine ⟨(Below.heap_setCell _ _ _ _ h.ne).trans h.hd, ?_⟩
  rw [heap_setCell_same w mb (i * 2 + 1) _ 70 _ h.bd]
  have := pcl_set1 T n 0 i hi g
  rw [Nat.zero_add] at this
  simp only [← this, List.setIfInBounds_toArray]
end

set_option maxRecDepth 100000 in
theorem rof_any (w : World) (rb mb n : Nat) (T : Pl) (i : Int) (h : Rt w rb mb n T) (hg : Gd T) (h2 : n ≤ 16) : Calls Try.prog 25 #[.pointer (some ⟨rb, 0, none⟩), .int .i64 i] w fun e w' => e = .returned (.tuple #[.int .i64 (ofV T n i), .bool (ofB T n i)]) ∧ w' = w := by
  have c0 := h.cell
  by_cases ha : i < 0
  · obtain ⟨e1, e2⟩ := ofB_false (T := T) (n := n) (i := i) (by omega)
    rw [e1, e2]
    clear h e1 e2
    go_enter Try.func25, Try.ntmps25
    go_wp2
    go_ret2
    exact ⟨rfl, rfl⟩
  by_cases hb : (n : Int) ≤ i
  · obtain ⟨e1, e2⟩ := ofB_false (T := T) (n := n) (i := i) (by omega)
    rw [e1, e2]
    clear h e1 e2
    go_enter Try.func25, Try.ntmps25
    go_wp2
    go_ret2
    exact ⟨rfl, rfl⟩
  obtain ⟨k, rfl⟩ : ∃ k : Nat, i = k := ⟨i.toNat, by omega⟩
  have hk : k < n := by omega
  have hkI : (k : Int) < n := by omega
  have ct := h.taken k hk
  have cg := h.gen k hk
  have hgk := hg k (by omega)
  cases ht : (T k).1 with
  | false =>
    obtain ⟨e1, e2⟩ := ofB_false (T := T) (n := n) (i := k) (by simp [ht])
    rw [e1, e2]
    rw [ht] at ct
    clear h e1 e2 hg
    go_enter Try.func25, Try.ntmps25
    go_wp2
    go_ret2
    exact ⟨rfl, rfl⟩
  | true =>
    obtain ⟨e1, e2⟩ := ofB_true (T := T) (n := n) (i := k) (by omega) (by omega) (by simpa using ht)
    rw [e1, e2]
    rw [ht] at ct
    simp only [Int.toNat_natCast]
    clear h e1 e2 hg
    go_enter Try.func25, Try.ntmps25
    go_wp2
    go_ret2
    exact ⟨rfl, rfl⟩

theorem ofV_nat {T : Pl} {n k : Nat} (h : ofB T n k = true) : (T k).1 = true ∧ ofV T n k = k + 16 * (T k).2 := by
  unfold ofV
  rw [if_pos h]
  unfold ofB at h
  simp at h
  exact ⟨h.2, by simp⟩

set_option maxRecDepth 100000 in
set_option maxHeartbeats 1000000 in
theorem rat_any (w : World) (rb mb n : Nat) (T : Pl) (x : Int) (h : Rt w rb mb n T) (hg : Gd T) (h2 : n ≤ 16) : Calls Try.prog 13 #[.pointer (some ⟨rb, 0, none⟩), .int .i64 x] w fun e w' => e = .returned (.tuple #[.int .i64 (atV T n x), .bool (atB T n x)]) ∧ w' = w := by
  have HR := hid h
  have HG := hid hg
  clear h hg
  go_enter Try.func13, Try.ntmps13
  go_wp2_with fail
  go_loopw [6] (fun vi wr => ∃ i : Nat, i ≤ n ∧ vi = .int .i64 i ∧ wr = w ∧ Hid (∀ j, j < i → ¬ ((T j).1 = true ∧ x = j + 16 * (T j).2))) (fun vi _ => n - (intOf vi).toNat)
  case atStart => exact ⟨0, Nat.zero_le _, rfl, rfl, fun j hj => by omega⟩
  case round =>
    obtain ⟨i, hi, rfl, rfl, hno⟩ := hrel
    have c0 := HR.out.cell
    by_cases hlt : i < n
    · have hltI : (i : Int) < n := by omega
      go_wp2_with fail
      refine (rof_any _ rb mb n T i HR.out HG.out h2).mono ?_
      rintro e w1 ⟨rfl, rfl⟩
      cases hb : ofB T n i with
      | false =>
        have hno' := hid (show ∀ j, j < i + 1 → ¬ ((T j).1 = true ∧ x = j + 16 * (T j).2) from fun j hj => by
          rcases Nat.lt_succ_iff_lt_or_eq.1 hj with h | rfl
          · exact hno.out j h
          · rintro ⟨ht, -⟩
            rw [(ofB_true (T := T) (n := n) (i := j) (by omega) (by omega) (by simpa using ht)).1] at hb
            cases hb)
        clear hno
        go_wp2
        go_roundw
        case rel => exact ⟨i + 1, by omega, by simp, trivial, hno'⟩
        case measure => simp [intOf]; omega
      | true =>
        obtain ⟨ht, hv⟩ := ofV_nat hb
        rw [hv]
        by_cases hx : (i : Int) + 16 * (T i).2 = x
        · have hxx : ((i : Int) + 16 * (T i).2 == x) = true := by simp [hx]
          have hg0 := (HG.out i (by omega)).1
          have HA := hid (show atB T n x = true ∧ atV T n x = i by
            have e1 : atB T n x = true := by rw [← hx, atB_of hlt h2 hg0]; simp [ht]
            refine ⟨e1, ?_⟩
            rw [← hx] at e1 ⊢
            exact atV_of (by omega) hg0 e1)
          go_wp2
          go_ret2
          exact ⟨by rw [HA.out.1, HA.out.2]; rfl, rfl⟩
        · have hxx : ((i : Int) + 16 * (T i).2 == x) = false := by simp [hx]
          have hno' := hid (show ∀ j, j < i + 1 → ¬ ((T j).1 = true ∧ x = j + 16 * (T j).2) from fun j hj => by
            rcases Nat.lt_succ_iff_lt_or_eq.1 hj with h | rfl
            · exact hno.out j h
            · rintro ⟨-, hh⟩
              exact hx hh.symm)
          clear hno
          go_wp2
          go_roundw
          case rel => exact ⟨i + 1, by omega, by simp, trivial, hno'⟩
          case measure => simp [intOf]; omega
    · have hltI : ¬ (i : Int) < n := by omega
      have HA := hid (show atB T n x = false ∧ atV T n x = 0 by
        have e1 : atB T n x = false := by
          cases e : atB T n x with
          | false => rfl
          | true =>
            obtain ⟨k, -, -, hkn, ht, hx⟩ := atV_nat e
            exact absurd ⟨ht, hx⟩ (hno.out k (by omega))
        exact ⟨e1, by unfold atV; rw [e1]; rfl⟩)
      go_wp2
      go_ret2
      exact ⟨by rw [HA.out.1, HA.out.2]; rfl, rfl⟩
end Go.Proofs.Ytaofpijcjohnhaa
