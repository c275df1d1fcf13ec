/- Add, Drop. -/
import Derived.Test.YtaofpijcjohnhaaLook
import Derived.WalkMore
import Derived.WalkSpells
import Derived.Deep.QuietTactic
namespace Go.Proofs.Ytaofpijcjohnhaa
open Go.RowKit

theorem Kp.drewN (w : World) (n : Nat) (rows : List Nat) : Kp w (w.drewN n) rows := ⟨rfl, rfl, rfl, Nat.le_refl _, fun _ _ _ => rfl⟩

theorem low_le (T : Pl) (m i : Nat) : i ≤ low T m i ∧ low T m i ≤ i + m := by
  induction m generalizing i with
  | zero => simp [low]
  | succ m ih =>
    unfold low
    split
    · have := ih (i + 1); omega
    · omega
theorem low_step {T : Pl} {n k : Nat} (hk : k < n) (ht : (T k).1 = true) : low T (n - k) k = low T (n - (k + 1)) (k + 1) := by
  rw [show n - k = (n - (k + 1)) + 1 by omega, low, if_pos ht]
theorem low_here {T : Pl} {n k : Nat} (hk : k < n) (ht : (T k).1 = false) : low T (n - k) k = k := by
  rw [show n - k = (n - (k + 1)) + 1 by omega, low, if_neg (by simp [ht])]

set_option maxRecDepth 100000 in
set_option maxHeartbeats 1000000 in
theorem low_any (w : World) (tb n : Nat) (T : Pl) (h : Tt w tb n T) (h2 : n ≤ 16) : Calls Try.prog 30 #[.pointer (some ⟨tb, 0, none⟩)] w fun e w' => e = .returned (.tuple #[.int .i64 (low T n 0), .bool (decide (low T n 0 < n))]) ∧ Kp w w' [] := by
  have c0 := h.count
  have H := hid h
  clear h
  go_enter Try.func30, Try.ntmps30
  go_wp2
  go_step3
  go_wp2
  go_step3
  go_wp2
  go_loopw [4] (fun i wr => ∃ k : Nat, k ≤ n ∧ i = .int .i64 k ∧ low T n 0 = low T (n - k) k ∧ Hid (Kp w wr []))
    (fun i _ => n - (intOf i).toNat)
  case atStart => exact ⟨0, Nat.zero_le _, rfl, rfl, Kp.refl _ _⟩
  case round =>
    obtain ⟨k, hk, rfl, hlow, hK⟩ := hrel
    have c0 := hK.out.cell H.out.count (by simp)
    by_cases hlt : k < n
    · have ct := hK.out.cell (H.out.taken k (by omega)) (by simp)
      cases ht : (T k).1 with
      | true =>
        rw [ht] at ct
        have hl := hid (hlow.trans (low_step hlt ht))
        clear hlow ht
        go_wp2
        go_roundw
        case rel => exact ⟨k + 1, by omega, by simp, hl.out, hK⟩
        case measure => simp [intOf]; omega
      | false =>
        rw [ht] at ct
        have hl := hid (hlow.trans (low_here hlt ht))
        clear hlow ht
        go_wp2
        have hltI : (k : Int) < (n : Int) := by omega
        go_quiet (fail)
        go_wp2
        rw [Exit.noGoto_ret]
        go_ret2
        refine ⟨?_, ?_⟩
        · rw [hl.out]; simp [hlt]
        · exact hK.out.trans (Kp.drewN _ _ _)
    · have hkn : k = n := by omega
      subst hkn
      have hltI : ¬ (k : Int) < (k : Int) := by omega
      have hl := hid (show low T k 0 = k by rw [hlow, Nat.sub_self]; rfl)
      clear hlow
      go_wp2
      go_quiet (fail)
      go_wp2
      rw [Exit.noGoto_ret]
      go_ret2
      refine ⟨?_, ?_⟩
      · rw [hl.out]; simp
      · exact hK.out.trans (Kp.drewN _ _ _)

set_option maxRecDepth 100000 in
theorem add_full (w : World) (tb n : Nat) (T : Pl) (h : Tt w tb n T) (h1 : 1 ≤ n) (h2 : n ≤ 16) (hl : low T n 0 = n) : Calls Try.prog 17 #[.pointer (some ⟨tb, 0, none⟩)] w fun e w' => e = .returned (.tuple #[.int .i64 0, .int .i64 5]) ∧ Kp w w' [] := by
  have cz := zero_ok w tb n T h (by omega)
  have cl := low_any w tb n T h h2
  rw [show decide (low T n 0 < n) = false by simp [hl]] at cl
  clear h
  go_enter Try.func17, Try.ntmps17
  go_wp2_with (first | (go_at_call 29; refine cz.mono ?_; rintro e w' ⟨rfl, rfl⟩) | (go_at_call 30; refine cl.mono ?_; rintro e w' ⟨rfl, hK⟩))
  go_ret2
  exact ⟨rfl, hK⟩

set_option maxRecDepth 100000 in
theorem add_ok (w : World) (tb n k : Nat) (T : Pl) (h : Tt w tb n T) (hg : Gd T) (hgk : (T k).2 < 1000000) (h1 : 1 ≤ n) (h2 : n ≤ 16) (hl : low T n 0 = k) (hk : k < n) :
    Calls Try.prog 17 #[.pointer (some ⟨tb, 0, none⟩)] w fun e w' => e = .returned (.tuple #[.int .i64 (k + 16 * ((T k).2 + 1)), .int .i64 0]) ∧ Tt w' tb n (upd T k (true, (T k).2 + 1)) ∧ Kp w w' [tb] := by
  have cz := zero_ok w tb n T h (by omega)
  have cl := low_any w tb n T h h2
  rw [show decide (low T n 0 < n) = true by simp [hl, hk]] at cl
  rw [hl] at cl
  have hgg := hg k (by omega)
  have H := hid h
  clear h hg
  go_enter Try.func17, Try.ntmps17
  go_wp2_with (first | (go_at_call 29; refine cz.mono ?_; rintro e w' ⟨rfl, rfl⟩) | (go_at_call 30; refine cl.mono ?_; rintro e w1 ⟨rfl, hK⟩; have HK := hid hK; have H1 := hid (H.out.keep hK (by simp)); have ct := H1.out.taken k (by omega); have cg := H1.out.gen k (by omega); have f0 := H1.out.free (1 + k * 2); have f1 := H1.out.free (1 + k * 2 + 1); clear hK))
  refine (handle_any _ true ((T k).2 + 1) k (by omega) (by omega)).mono ?_
  rintro e w2 ⟨rfl, hK2⟩
  have HK2 := hid hK2
  clear hK2
  go_wp2
  go_ret2
  refine ⟨rfl, ?_, ?_⟩
  · have h3 := ((H1.out.setTaken k (by omega) true).setGen k (by omega) ((T k).2 + 1)).keep HK2.out (by simp)
    rw [upd_upd, upd_same] at h3
    exact h3
  · exact ((HK.out.nil (r := [tb])).trans ((Kp.setCell w1 ⟨tb, 1 + k * 2, none⟩ _).trans (Kp.setCell _ ⟨tb, 1 + k * 2 + 1, none⟩ _))).trans HK2.out.nil

theorem atV_nat {T : Pl} {n : Int} {x : Int} (h : atB T n x = true) : ∃ k : Nat, x.tmod 16 = k ∧ atV T n x = k ∧ (k : Int) < n ∧ (T k).1 = true ∧ x = k + 16 * (T k).2 := by
  have hv : atV T n x = x.tmod 16 := by unfold atV; rw [if_pos h]
  unfold atB at h
  simp only [Bool.and_eq_true, beq_iff_eq] at h
  obtain ⟨ho, hx⟩ := h
  unfold ofV at hx
  rw [if_pos ho] at hx
  unfold ofB at ho
  simp only [Bool.and_eq_true, decide_eq_true_eq] at ho
  obtain ⟨k, hk⟩ : ∃ k : Nat, x.tmod 16 = k := ⟨(x.tmod 16).toNat, by omega⟩
  rw [hk] at ho hv hx
  exact ⟨k, hk, hv, ho.1.2, by simpa using ho.2, by simpa using hx.symm⟩

set_option maxRecDepth 100000 in
theorem drop_no (w : World) (tb n : Nat) (T : Pl) (x : Int) (h : Tt w tb n T) (hg : Gd T) (h1 : 1 ≤ n) (h2 : n ≤ 16) (hx : atB T n x = false) :
    Calls Try.prog 18 #[.pointer (some ⟨tb, 0, none⟩), .int .i64 x] w fun e w' => e = .returned (.int .i64 6) ∧ Kp w w' [] := by
  have cz := zero_ok w tb n T h (by omega)
  have ca := at_any w tb n T x h hg (by omega) (by omega)
  rw [hx] at ca
  clear h hg
  go_enter Try.func18, Try.ntmps18
  go_wp2_with (first | (go_at_call 29; refine cz.mono ?_; rintro e w' ⟨rfl, rfl⟩) | (go_at_call 12; refine ca.mono ?_; rintro e w1 ⟨rfl, hK⟩))
  go_ret
  exact ⟨rfl, hK⟩

set_option maxRecDepth 100000 in
theorem drop_ok (w : World) (tb n k : Nat) (T : Pl) (x : Int) (h : Tt w tb n T) (hg : Gd T) (h1 : 1 ≤ n) (h2 : n ≤ 16) (hx : atB T n x = true) (hv : atV T n x = k) (hk : k < n) :
    Calls Try.prog 18 #[.pointer (some ⟨tb, 0, none⟩), .int .i64 x] w fun e w' => e = .returned (.int .i64 0) ∧ Tt w' tb n (upd T k (false, (T k).2)) ∧ Kp w w' [tb] := by
  have cz := zero_ok w tb n T h (by omega)
  have ca := at_any w tb n T x h hg (by omega) (by omega)
  rw [hx, hv] at ca
  have H := hid h
  clear h hg
  go_enter Try.func18, Try.ntmps18
  go_wp2_with (first | (go_at_call 29; refine cz.mono ?_; rintro e w' ⟨rfl, rfl⟩) | (go_at_call 12; refine ca.mono ?_; rintro e w1 ⟨rfl, hK⟩; have HK := hid hK; have H1 := hid (H.out.keep hK (by simp)); have ct := H1.out.taken k (by omega); have f0 := H1.out.free (1 + k * 2); clear hK))
  go_ret
  exact ⟨rfl, H1.out.setTaken k (by omega) false, (HK.out.nil (r := [tb])).trans (Kp.setCell w1 ⟨tb, 1 + k * 2, none⟩ _)⟩

set_option maxRecDepth 100000 in
theorem num_any (w : World) (e : Int) : Calls Try.prog 9 #[.int .i64 e] w fun x w' => x = .returned (.int .i64 e) ∧ w' = w := by
  go_enter Try.func9, Try.ntmps9
  go_wp2
  go_ret
  exact ⟨rfl, rfl⟩
end Go.Proofs.Ytaofpijcjohnhaa
