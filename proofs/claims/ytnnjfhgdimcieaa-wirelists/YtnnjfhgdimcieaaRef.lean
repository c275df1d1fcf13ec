/- The reference reader Number. -/
import Derived.Test.YtnnjfhgdimcieaaBackWalk
namespace Go.Proofs.Ytnnjfhgdimcieaa
open Go.RowKit

/-- The reference's reader at block db: its bytes vb, which read as b; it is at 'at'. -/
def Rf (w : World) (db : Nat) (vb : Value) (at0 : Nat) (b : List Int) : Prop :=
  w.heap[db]? = some (.cells #[vb, .int .i64 at0] 40 (0, 0)) ∧ Bs w vb b ∧ vb.ownBlock ≠ some db ∧ at0 ≤ b.length

theorem drop_cons (b : List Int) (k : Nat) (h : k < b.length) : b.drop k = b.getD k 0 :: b.drop (k + 1) := by
  rw [List.drop_eq_getElem_cons h]
  simp [List.getD, List.getElem?_eq_getElem h]

theorem add_join (acc i d : Nat) (ha : acc < 128 ^ i) (hi : i ≤ 9) (hd : d < 128) (h9 : i = 9 → d ≤ 1) :
    IntKind.u64.wrap ((acc : Int) + IntKind.u64.wrap ((d : Int) * 2 ^ (7 * i))) = ((acc + d * 128 ^ i : Nat) : Int) := by
  have hlt := dig_lt d i hi hd h9
  have hc : (d : Int) * 2 ^ (7 * i) = ((d * 2 ^ (7 * i) : Nat) : Int) := by simp
  have hw : IntKind.u64.wrap ((d : Int) * 2 ^ (7 * i)) = ((d * 2 ^ (7 * i) : Nat) : Int) := by
    rw [hc]
    exact IntWalk.u64_in _ ⟨by omega, by omega⟩
  have hn := acc_next acc i d ha hd
  have hb : acc + d * 2 ^ (7 * i) < 18446744073709551616 := by
    rw [← pow128]
    rcases Nat.lt_or_ge i 9 with h' | h'
    · have := Nat.pow_le_pow_right (n := 128) (by decide) (show i + 1 ≤ 9 by omega)
      have h9 : 128 ^ 9 = 9223372036854775808 := by decide
      omega
    · obtain rfl : i = 9 := by omega
      have h9' : 128 ^ 9 = 9223372036854775808 := by decide
      have := h9 rfl
      rw [h9'] at ha ⊢
      have : d * 9223372036854775808 ≤ 1 * 9223372036854775808 := Nat.mul_le_mul_right _ this
      omega
  rw [hw, pow128]
  rw [IntWalk.u64_in _ ⟨by omega, by omega⟩]
  omega

theorem add_join9 (acc d : Nat) (ha : acc < 128 ^ 9) (hd : d ≤ 1) :
    IntKind.u64.wrap ((acc : Int) + (d : Int) * 9223372036854775808) = ((acc + d * 128 ^ 9 : Nat) : Int) := by
  have h := add_join acc 9 d ha (by omega) (by omega) (fun _ => hd)
  rw [← h]
  congr 2
  exact (IntWalk.u64_in _ ⟨by omega, by omega⟩).symm

theorem Rf.shape {w : World} {db at0 : Nat} {vb : Value} {b : List Int} (h : Rf w db vb at0 b) : ∃ ao cap, vb = .slice ao b.length cap ∧ b.length ≤ cap := by
  obtain ⟨-, ⟨ao, cap, rfl, hl, -⟩, -⟩ := h
  exact ⟨_, _, rfl, hl⟩
theorem Rf.keep {w w' : World} {db at0 : Nat} {vb : Value} {b : List Int} {row : Option Nat} (h : Rf w db vb at0 b) (hg : w.grownBy w' row) (h1 : row ≠ some db) (h2 : row = none ∨ vb.ownBlock ≠ row) : Rf w' db vb at0 b := by
  refine ⟨(hg.block db (lt_of_block h.1) (fun e => h1 e.symm)).trans h.1, ?_, h.2.2⟩
  by_cases hl : b = []
  · subst hl
    obtain ⟨ao, cap, rfl, a, b, c⟩ := h.2.1
    exact ⟨ao, cap, rfl, a, b, fun h => absurd rfl h⟩
  · exact h.2.1.keep fun k hk => hg.block k (h.2.1.lt hl k hk) (fun e => by rcases h2 with h2 | h2 <;> simp_all)
theorem Rf.set {w : World} {db at0 at1 : Nat} {vb : Value} {b : List Int} (h : Rf w db vb at0 b) (h1 : at1 ≤ b.length) : Rf (w.setCell ⟨db, 1, none⟩ (.int .i64 at1)) db vb at1 b := by
  refine ⟨two_setCell1 h.1, ?_, h.2.2.1, h1⟩
  exact h.2.1.keep fun k hk => Below.heap_setCell _ _ _ _ (fun e => h.2.2.1 (by rw [hk, e]))

set_option maxRecDepth 100000 in
set_option maxHeartbeats 1000000 in
theorem fNumber_lc (w : World) (db : Nat) (vb : Value) (at0 : Nat) (b : List Int) (h : Rf w db vb at0 b) (hby : Byt b) (hm : b.length ≤ 140737488351232) :
    Calls Try.prog 39 #[.pointer (some ⟨db, 0, none⟩)] w fun e w' => e = .returned (rans (rnum 0 0 (b.drop at0))) ∧ w.grownBy w' (some db) ∧ ∃ at1 : Nat, Rf w' db vb at1 b ∧
      (rnum 0 0 (b.drop at0) = none → at1 = at0) ∧ ∀ n r, rnum 0 0 (b.drop at0) = some (n, r) → b.drop at1 = r := by
  have H := hid h
  obtain ⟨hbk, hbs, hne, hat⟩ := h
  obtain ⟨aob, capb, rfl, hcap, -, hcl⟩ := hbs
  have k0 := cell_two0 hbk
  have k1 := cell_two1 hbk
  have kf := free_two (i := 1) hbk
  have HCL := hid hcl
  have Hby := hid hby
  have hmI : (b.length : Int) ≤ 140737488351232 := by omega
  have hatI : (at0 : Int) ≤ (b.length : Int) := by omega
  clear hbk hcl hne hby
  go_enter Try.func39, Try.ntmps39
  go_wp2
  go_loopw [4, 5] (fun n i wr => ∃ (k acc nd : Nat), wr = w.drewN nd ∧ n = .int .u64 acc ∧ i = .int .i64 k ∧ k ≤ 9 ∧ at0 + k ≤ b.length ∧ Hid (acc < 128 ^ k) ∧ Hid (rnum 0 0 (b.drop at0) = rnum k acc (b.drop (at0 + k))))
    (fun _ i _ => 10 - (intOf i).toNat)
  case atStart => exact ⟨0, 0, 0, rfl, rfl, rfl, by omega, by omega, Nat.zero_lt_one, rfl⟩
  case round =>
    obtain ⟨k, acc, nd, rfl, rfl, rfl, hk, hkl, hacc, hq⟩ := hrel
    have hk10 : (k : Int) < 10 := by omega
    have HI := hid hk
    by_cases hlt : at0 + k < b.length
    · have hltI : (at0 : Int) + (k : Int) < (b.length : Int) := by omega
      obtain ⟨bb, off, rfl, hcell⟩ := HCL.out (by intro e; subst e; simp at hlt)
      have hcx := hcell (at0 + k) hlt
      obtain ⟨c0, c1⟩ := Hby.out (b.getD (at0 + k) 0) (by simp [List.getD, List.getElem?_eq_getElem hlt])
      have hdc := drop_cons b (at0 + k) hlt
      obtain ⟨d, hd⟩ := Int.eq_ofNat_of_zero_le c0
      rw [hd] at hcx hdc c0 c1
      have HQ := hid (hq.out.trans (by rw [hdc]))
      clear hcell hdc hd hq
      have h0I : (0 : Int) ≤ (at0 : Int) + (k : Int) := by omega
      have e1 : ((at0 : Int) + (k : Int)).toNat = at0 + k := by omega
      by_cases h9 : k = 9 ∧ 1 < (d : Int)
      · obtain ⟨rfl, h9⟩ := h9
        go_wp2_with fail
        go_quiet (fail)
        go_wp2_with fail
        go_quiet (fail)
        go_wp2
        go_ret2
        have hv : rnum 0 0 (b.drop at0) = none := by rw [HQ.out]; simp [rnum, h9]
        exact ⟨by rw [hv]; rfl, grownBy_mono (by first | exact grownBy_drewN _ _ | exact grownBy_trans (grownBy_drewN _ _) (grownBy_drewN _ _) | exact grownBy_trans (grownBy_trans (grownBy_drewN _ _) (grownBy_drewN _ _)) (grownBy_drewN _ _)), at0, H.out.keep (by first | exact grownBy_drewN _ _ | exact grownBy_trans (grownBy_drewN _ _) (grownBy_drewN _ _) | exact grownBy_trans (grownBy_trans (grownBy_drewN _ _) (grownBy_drewN _ _)) (grownBy_drewN _ _)) (by simp) (.inl rfl), fun _ => rfl, by rw [hv]; intro n r h; cases h⟩
      by_cases h0 : 0 < k ∧ (d : Int) = 0
      · obtain ⟨h0, h0'⟩ := h0
        obtain rfl : d = 0 := by omega
        go_wp2_with fail
        go_quiet (fail)
        go_wp2_with fail
        go_quiet (fail)
        go_wp2
        all_goals
          go_ret2
          have hv : rnum 0 0 (b.drop at0) = none := by rw [HQ.out]; simp [rnum, h0]
          exact ⟨by rw [hv]; rfl, grownBy_mono (by first | exact grownBy_drewN _ _ | exact grownBy_trans (grownBy_drewN _ _) (grownBy_drewN _ _) | exact grownBy_trans (grownBy_trans (grownBy_drewN _ _) (grownBy_drewN _ _)) (grownBy_drewN _ _)), at0, H.out.keep (by first | exact grownBy_drewN _ _ | exact grownBy_trans (grownBy_drewN _ _) (grownBy_drewN _ _) | exact grownBy_trans (grownBy_trans (grownBy_drewN _ _) (grownBy_drewN _ _)) (grownBy_drewN _ _)) (by simp) (.inl rfl), fun _ => rfl, by rw [hv]; intro n r h; cases h⟩
      by_cases h128 : (d : Int) < 128
      · have hv := hid (show rnum 0 0 (b.drop at0) = some (acc + d * 128 ^ k, b.drop (at0 + k + 1)) by rw [HQ.out]; simp only [rnum]; rw [if_neg h9, if_neg h0, if_pos h128]; simp)
        have em : (d : Int) % 128 = (d : Int) := by omega
        rcases (show (k = 0) ∨ (k = 9 ∧ d ≤ 1 ∧ d ≠ 0) ∨ (0 < k ∧ k < 9 ∧ d ≠ 0) by omega) with hk0 | ⟨hk9, hd1, hd0⟩ | ⟨hk0, hk9, hd0⟩
        · have HK0 := hid hk0
          have hk9' : ((k : Int) == 9) = false := by simp; omega
          have hk0' : decide (0 < (k : Int)) = false := by simp; omega
          have hkle : (k : Int) ≤ 0 := by omega
          clear h9 h0 hk0
          go_wp2_with fail
          go_quiet (fail)
          go_wp2_with fail
          go_quiet (fail)
          go_wp2
          go_ret2
          refine ⟨by rw [hv.out]; exact ret_two (add_join acc k d hacc.out HI.out (by omega) (by have := HK0.out; omega)), ?_, at0 + k + 1, ?_, ?_, ?_⟩
          · exact grownBy_trans (grownBy_mono (grownBy_drewN _ _)) (grownBy_setCell _ ⟨db, 1, none⟩ _)
          · first
            | (rw [show (at0 : Int) + (k : Int) + 1 = ((at0 + k + 1 : Nat) : Int) by omega]; exact (H.out.keep (grownBy_drewN _ _) (by simp) (.inl rfl)).set (by omega))
            | (rw [show (at0 : Int) + 9 + 1 = ((at0 + 9 + 1 : Nat) : Int) by omega]; exact (H.out.keep (grownBy_drewN _ _) (by simp) (.inl rfl)).set (by omega))
          · intro h; rw [hv.out] at h; cases h
          · intro n r h; rw [hv.out] at h; cases h; rfl
        · have hd1' : (d : Int) ≤ 1 := by omega
          have hd0' : ((d : Int) == 0) = false := by simp; omega
          subst hk9
          clear h9 h0 hd0
          go_wp2_with fail
          go_quiet (fail)
          go_wp2_with fail
          go_quiet (fail)
          go_wp2
          go_ret2
          refine ⟨by rw [hv.out]; exact ret_two (add_join9 acc d hacc.out hd1), ?_, at0 + 9 + 1, ?_, ?_, ?_⟩
          · exact grownBy_trans (grownBy_mono (grownBy_drewN _ _)) (grownBy_setCell _ ⟨db, 1, none⟩ _)
          · first
            | (rw [show (at0 : Int) + (k : Int) + 1 = ((at0 + k + 1 : Nat) : Int) by omega]; exact (H.out.keep (grownBy_drewN _ _) (by simp) (.inl rfl)).set (by omega))
            | (rw [show (at0 : Int) + 9 + 1 = ((at0 + 9 + 1 : Nat) : Int) by omega]; exact (H.out.keep (grownBy_drewN _ _) (by simp) (.inl rfl)).set (by omega))
          · intro h; rw [hv.out] at h; cases h
          · intro n r h; rw [hv.out] at h; cases h; rfl
        · have hk9' : ((k : Int) == 9) = false := by simp; omega
          have hd0' : ((d : Int) == 0) = false := by simp; omega
          have hk0' : (0 : Int) < (k : Int) := by omega
          clear h9 h0 hd0
          go_wp2_with fail
          go_quiet (fail)
          go_wp2_with fail
          go_quiet (fail)
          go_wp2
          go_ret2
          refine ⟨by rw [hv.out]; exact ret_two (add_join acc k d hacc.out HI.out (by omega) (by omega)), ?_, at0 + k + 1, ?_, ?_, ?_⟩
          · exact grownBy_trans (grownBy_mono (grownBy_drewN _ _)) (grownBy_setCell _ ⟨db, 1, none⟩ _)
          · first
            | (rw [show (at0 : Int) + (k : Int) + 1 = ((at0 + k + 1 : Nat) : Int) by omega]; exact (H.out.keep (grownBy_drewN _ _) (by simp) (.inl rfl)).set (by omega))
            | (rw [show (at0 : Int) + 9 + 1 = ((at0 + 9 + 1 : Nat) : Int) by omega]; exact (H.out.keep (grownBy_drewN _ _) (by simp) (.inl rfl)).set (by omega))
          · intro h; rw [hv.out] at h; cases h
          · intro n r h; rw [hv.out] at h; cases h; rfl
      · obtain ⟨d, rfl⟩ : ∃ d', d = d' + 128 := ⟨d - 128, by omega⟩
        have hv := hid (show rnum 0 0 (b.drop at0) = rnum (k + 1) (acc + d * 128 ^ k) (b.drop (at0 + (k + 1))) by rw [HQ.out]; simp only [rnum]; rw [if_neg h9, if_neg h0, if_neg h128, show ((d + 128 : Nat) : Int).toNat - 128 = d by omega, Nat.add_assoc])
        have em : ((d : Int) + 128) % 128 = (d : Int) := by omega
        have hk8 : k < 9 := by omega
        have hk9' : ((k : Int) == 9) = false := by simp; omega
        have hd0' : ((d : Int) + 128 == 0) = false := by simp; omega
        have h128' : (128 : Int) ≤ (d : Int) + 128 := by omega
        have c1' : (d : Int) + 128 < 256 := by omega
        have hcx' : w.cell? ⟨bb, off + (at0 + k), none⟩ = some (.int .u8 ((d : Int) + 128)) := by rw [hcx]; simp
        clear h9 h0 h128 hcx HQ
        by_cases hk0 : k = 0
        · have hk0' : decide (0 < (k : Int)) = false := by simp; omega
          have hkle : (k : Int) ≤ 0 := by omega
          clear hk0
          go_wp2_with fail
          go_quiet (fail)
          go_wp2_with fail
          go_quiet (fail)
          go_wp2
          go_roundw
          case rel => exact ⟨k + 1, acc + d * 128 ^ k, _, rfl, congrArg (Value.int .u64) (add_join acc k d hacc.out HI.out (by omega) (by omega)), by go_num, by omega, by omega, acc_next acc k d hacc.out (by omega), hv.out⟩
          case measure => simp [intOf]; omega
        · have hk0' : (0 : Int) < (k : Int) := by omega
          go_wp2_with fail
          go_quiet (fail)
          go_wp2_with fail
          go_quiet (fail)
          go_wp2
          go_roundw
          case rel => exact ⟨k + 1, acc + d * 128 ^ k, _, rfl, congrArg (Value.int .u64) (add_join acc k d hacc.out HI.out (by omega) (by omega)), by go_num, by omega, by omega, acc_next acc k d hacc.out (by omega), hv.out⟩
          case measure => simp [intOf]; omega
    · have hltI : decide ((at0 : Int) + (k : Int) < (b.length : Int)) = false := by simp; omega
      go_wp2_with fail
      go_quiet (fail)
      go_wp2
      go_ret2
      have hv : rnum 0 0 (b.drop at0) = none := by rw [hq.out, List.drop_eq_nil_of_le (by omega)]; rfl
      exact ⟨by rw [hv]; rfl, grownBy_mono (grownBy_trans (grownBy_drewN _ _) (grownBy_drewN _ _)), at0, H.out.keep (grownBy_trans (grownBy_drewN _ _) (grownBy_drewN _ _)) (by simp) (.inl rfl), fun _ => rfl, by rw [hv]; intro n r h; cases h⟩
end Go.Proofs.Ytnnjfhgdimcieaa
