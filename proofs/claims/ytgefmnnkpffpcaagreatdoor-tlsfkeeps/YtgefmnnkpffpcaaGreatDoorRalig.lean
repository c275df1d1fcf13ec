/- The reference: Aligned. -/
import Derived.Test.YtgefmnnkpffpcaaGreatDoorRallocJ
namespace Go.Proofs.YtgefmnnkpffpcaaGreatDoor
open Go.RowKit Go.Maps

set_option maxRecDepth 100000 in
set_option maxHeartbeats 2000000 in
theorem rAl_arg (w : World) (hb : Nat) (m n : Int) (hm : (isMul m && mayB n) = false) : Calls Tryz.prog 37 #[.pointer (some ⟨hb, 0, none⟩), .int .i64 m, .int .i64 n] w fun e w' => e = .returned (.tuple #[.int .i64 0, .int .i64 2]) ∧ w' = w := by
  have HM := hid (rmay_any w n)
  have hc : isMul m = false ∨ (isMul m = true ∧ mayB n = false) := by
    cases h1 : isMul m <;> cases h2 : mayB n <;> simp_all
  clear hm
  go_enter Tryz.func37, Tryz.ntmps37
  go_wp2_with fail
  go_loopw [8, 9] (fun vg vp wr => ∃ k : Nat, k ≤ 10 ∧ vg = .bool (goodTo m k) ∧ vp = .int .i64 ((2 : Int) ^ (k + 3)) ∧ wr = w) (fun _ vp _ => (8192 - intOf vp).toNat)
  case atStart => exact ⟨0, by omega, rfl, rfl, rfl⟩
  case round =>
    obtain ⟨k, hk, rfl, rfl, hw⟩ := hrel
    have hw := hw.symm
    subst hw
    obtain ⟨b1, b2, b3, b4⟩ := two_bd k hk
    have HG := hid (show goodTo m (k + 1) = (goodTo m k || decide ((2 : Int) ^ (k + 3) = m)) from rfl)
    obtain ⟨P, hP⟩ : ∃ P, (2 : Int) ^ (k + 3) = P := ⟨_, rfl⟩
    obtain ⟨g0, hg0⟩ : ∃ g0, goodTo m k = g0 := ⟨_, rfl⟩
    rw [hP] at b1 b2 b3 b4 HG ⊢
    rw [hg0] at HG ⊢
    by_cases hlt : k < 10
    · have hP4 : P ≤ 4096 := b4.2 hlt
      have hw2 : IntKind.i64.wrap (P * 2) = P * 2 := IntWalk.i64_in _ ⟨by omega, by omega⟩
      have HB := hid b3
      clear b3 b4 hP hg0
      cases g0 with
      | true =>
        have HE := hid (show goodTo m (k + 1) = true from by rw [HG.out]; rfl)
        clear HG
        go_wp2
        go_roundw
        case rel => exact ⟨k + 1, by omega, by rw [HE.out], by rw [HB.out], by first | rfl | trivial⟩
        case measure => simp [intOf]; omega
      | false =>
        by_cases he : P = m
        · have hb : (P == m) = true := by simp [he]
          have HE := hid (show goodTo m (k + 1) = true from by rw [HG.out]; simp [he])
          clear he HG
          go_wp2
          go_roundw
          case rel => exact ⟨k + 1, by omega, by rw [HE.out], by rw [HB.out], by first | rfl | trivial⟩
          case measure => simp [intOf]; omega
        · have hb : (P == m) = false := by simp [he]
          have HE := hid (show goodTo m (k + 1) = false from by rw [HG.out]; simp [he])
          clear he HG
          go_wp2
          go_roundw
          case rel => exact ⟨k + 1, by omega, by rw [HE.out], by rw [HB.out], by first | rfl | trivial⟩
          case measure => simp [intOf]; omega
    · have hP4 : ¬ P ≤ 4096 := fun h => hlt (b4.1 h)
      have hk10 : k = 10 := by omega
      subst hk10
      rw [good_mul] at hg0
      subst hg0
      clear b3 b4 HG hP
      rcases hc with h1 | ⟨h1, h2⟩
      · rw [h1]
        go_wp2
        go_ret2
        exact ⟨rfl, rfl⟩
      · rw [h1]
        rw [h2] at HM
        go_wp2_with fail
        refine HM.out.mono ?_
        rintro e w1 ⟨rfl, rfl⟩
        go_wp2
        go_ret2
        exact ⟨rfl, rfl⟩
set_option maxRecDepth 100000 in
set_option maxHeartbeats 2000000 in
theorem rAl_none (w : World) (hb : Nat) (V mv : Value) (G : Nat → Value) (B : List Bl) (F : Nat → List Int) (m n : Int) (h : Rh w hb V G mv B F) (hm : isMul m = true) (hn : mayB n = true) (hF : ∀ c, (clsFor (needed n + m + 16)).toNat ≤ c → c < 32 → F c = []) : Calls Tryz.prog 37 #[.pointer (some ⟨hb, 0, none⟩), .int .i64 m, .int .i64 n] w fun e w' => e = .returned (.tuple #[.int .i64 0, .int .i64 5]) ∧ w' = w := by
  obtain ⟨n1, n2, n3, n4⟩ := needed_bd hn
  have hmb : 8 ≤ m ∧ m ≤ 4096 := by
    unfold isMul at hm
    rw [Bool.and_eq_true] at hm
    exact of_decide_eq_true hm.1
  have HM := hid (rmay_any w n)
  rw [hn] at HM
  have HN := hid (rneed_any w n n1 n2)
  have HF := hid (rfind_no w hb V mv G B F (needed n + m + 16) h (by omega) (by omega) hF)
  have HMU := hid hm
  obtain ⟨z, hz⟩ : ∃ z, needed n = z := ⟨_, rfl⟩
  rw [hz] at n3 n4 HN HF
  have hw1 : IntKind.i64.wrap (z + m) = z + m := IntWalk.i64_in _ ⟨by omega, by omega⟩
  have hw2 : IntKind.i64.wrap (z + m + 16) = z + m + 16 := IntWalk.i64_in _ ⟨by omega, by omega⟩
  clear h hm hn hF hz
  go_enter Tryz.func37, Tryz.ntmps37
  go_wp2_with fail
  go_loopw [8, 9] (fun vg vp wr => ∃ k : Nat, k ≤ 10 ∧ vg = .bool (goodTo m k) ∧ vp = .int .i64 ((2 : Int) ^ (k + 3)) ∧ wr = w) (fun _ vp _ => (8192 - intOf vp).toNat)
  case atStart => exact ⟨0, by omega, rfl, rfl, rfl⟩
  case round =>
    obtain ⟨k, hk, rfl, rfl, hw⟩ := hrel
    have hw := hw.symm
    subst hw
    obtain ⟨b1, b2, b3, b4⟩ := two_bd k hk
    have HG := hid (show goodTo m (k + 1) = (goodTo m k || decide ((2 : Int) ^ (k + 3) = m)) from rfl)
    obtain ⟨P, hP⟩ : ∃ P, (2 : Int) ^ (k + 3) = P := ⟨_, rfl⟩
    obtain ⟨g0, hg0⟩ : ∃ g0, goodTo m k = g0 := ⟨_, rfl⟩
    rw [hP] at b1 b2 b3 b4 HG ⊢
    rw [hg0] at HG ⊢
    by_cases hlt : k < 10
    · have hP4 : P ≤ 4096 := b4.2 hlt
      have hw2 : IntKind.i64.wrap (P * 2) = P * 2 := IntWalk.i64_in _ ⟨by omega, by omega⟩
      have HB := hid b3
      clear b3 b4 hP hg0
      cases g0 with
      | true =>
        have HE := hid (show goodTo m (k + 1) = true from by rw [HG.out]; rfl)
        clear HG
        go_wp2
        go_roundw
        case rel => exact ⟨k + 1, by omega, by rw [HE.out], by rw [HB.out], by first | rfl | trivial⟩
        case measure => simp [intOf]; omega
      | false =>
        by_cases he : P = m
        · have hb : (P == m) = true := by simp [he]
          have HE := hid (show goodTo m (k + 1) = true from by rw [HG.out]; simp [he])
          clear he HG
          go_wp2
          go_roundw
          case rel => exact ⟨k + 1, by omega, by rw [HE.out], by rw [HB.out], by first | rfl | trivial⟩
          case measure => simp [intOf]; omega
        · have hb : (P == m) = false := by simp [he]
          have HE := hid (show goodTo m (k + 1) = false from by rw [HG.out]; simp [he])
          clear he HG
          go_wp2
          go_roundw
          case rel => exact ⟨k + 1, by omega, by rw [HE.out], by rw [HB.out], by first | rfl | trivial⟩
          case measure => simp [intOf]; omega
    · have hP4 : ¬ P ≤ 4096 := fun h => hlt (b4.1 h)
      have hk10 : k = 10 := by omega
      subst hk10
      rw [good_mul] at hg0
      subst hg0
      clear b3 b4 HG hP
      rw [HMU.out]
      go_wp2_with fail
      refine HM.out.mono ?_
      rintro e w1 ⟨rfl, rfl⟩
      go_wp2_with fail
      refine HN.out.mono ?_
      rintro e w1 ⟨rfl, rfl⟩
      go_wp2_with fail
      refine HF.out.mono ?_
      rintro e w1 ⟨rfl, rfl⟩
      go_wp2
      go_ret2
      exact ⟨rfl, rfl⟩
set_option maxRecDepth 100000 in
set_option maxHeartbeats 4000000 in
theorem rAl_here (w : World) (hb : Nat) (V mv : Value) (G : Nat → Value) (A r : List Bl) (F : Nat → List Int) (m n a s : Int) (l : List Int) (k0 : Nat) (h : Rh w hb V G mv (A ++ (a, s, true) :: r) F) (hl : (A ++ (a, s, true) :: r).length ≤ 9990) (hk0 : m = 2 ^ k0) (hk3 : 3 ≤ k0) (hm : isMul m = true) (hn : mayB n = true) (hF : ∀ c, (clsFor (needed n + m + 16)).toNat ≤ c → c < kl s → F c = []) (hs : 16 ≤ s) (hs2 : s < 65536) (hle : (clsFor (needed n + m + 16)).toNat ≤ kl s) (hFl : F (kl s) = a :: l) (hll : ∀ c, (F c).length ≤ 9990) (hu : ∀ j, j < (A ++ (a, s, true) :: r).length → (A ++ (a, s, true) :: r)[j]!.1 = a → j = A.length) (ha : 0 ≤ a) (ha2 : a ≤ 100000) (ha8 : a % 8 = 0) (hfit : alignedFrom a m + needed n ≤ a + s) (hab : alignedFrom a m = a) :
    Calls Tryz.prog 37 #[.pointer (some ⟨hb, 0, none⟩), .int .i64 m, .int .i64 n] w fun e w' => e = .returned (.tuple #[.int .i64 (a + 8), .int .i64 0]) ∧ Rg w w' hb V G mv (giveR A a s (needed n) r (rmF F (kl s) a)).1 (giveR A a s (needed n) r (rmF F (kl s) a)).2 := by
  obtain ⟨n1, n2, n3, n4⟩ := needed_bd hn
  have hmb : 8 ≤ m ∧ m ≤ 4096 := by
    unfold isMul at hm
    rw [Bool.and_eq_true] at hm
    exact of_decide_eq_true hm.1
  have HM := hid (rmay_any w n)
  rw [hn] at HM
  have HN := hid (fun w1 => rneed_any w1 n n1 n2)
  have HF := hid (rfind_yes w hb V mv G _ F (needed n + m + 16) A.length a s true l h (by omega) (by omega) (by omega) hF hs hs2 hle hFl (by have := hll (kl s); omega) (by simp) (mid_at _ _ _) hu)
  rw [mid_set] at HF
  have HMU := hid hm
  have AF := aligned_facts (a := a) hk0 hk3 ha8
  have HGO := hid (fun x => at_go (a := a) (m := m) (x := x) hmb.1)
  have HST := hid (at_stop hk0 hk3 ha8)
  obtain ⟨b, hb0⟩ : ∃ b, alignedFrom a m = b := ⟨_, rfl⟩
  rw [hb0] at AF HGO HST hfit hab
  (try rw [hb0])
  obtain ⟨-, -, f3, -, f5, -, f7⟩ := AF
  have HF7 := hid f7
  obtain ⟨i, hi⟩ : ∃ i, A.length = i := ⟨_, rfl⟩
  have hil : i < 9990 := by simp at hl; omega
  rw [hi] at HF
  obtain ⟨z, hz⟩ : ∃ z, needed n = z := ⟨_, rfl⟩
  rw [hz] at n3 n4 HN HF hfit ⊢
  have hw1 : IntKind.i64.wrap (z + m) = z + m := IntWalk.i64_in _ ⟨by omega, by omega⟩
  have hw2 : IntKind.i64.wrap (z + m + 16) = z + m + 16 := IntWalk.i64_in _ ⟨by omega, by omega⟩
  obtain ⟨i1, hi1⟩ : ∃ i1, i + 1 = i1 := ⟨_, rfl⟩
  have hw3 : IntKind.i64.wrap ((i : Int) + 1) = (i1 : Int) := by rw [← hi1]; exact IntWalk.i64_in _ ⟨by omega, by omega⟩
  have HI := hid (And.intro hi hi1)
  have HL := hid (And.intro hl (fun c => Nat.le_trans (rm_len F (kl s) a c) (hll c)))
  clear h hm hn hF hz hl hll hu hle hFl hi hi1 hk0 hk3 ha8 hb0 f7
  have hab := hab.symm
  subst hab
  go_enter Tryz.func37, Tryz.ntmps37
  go_wp2_with fail
  go_loopw [8, 9] (fun vg vp wr => ∃ k : Nat, k ≤ 10 ∧ vg = .bool (goodTo m k) ∧ vp = .int .i64 ((2 : Int) ^ (k + 3)) ∧ wr = w) (fun _ vp _ => (8192 - intOf vp).toNat)
  case atStart => exact ⟨0, by omega, rfl, rfl, rfl⟩
  case round =>
    obtain ⟨k, hk, rfl, rfl, hw⟩ := hrel
    have hw := hw.symm
    subst hw
    obtain ⟨b1, b2, b3, b4⟩ := two_bd k hk
    have HG := hid (show goodTo m (k + 1) = (goodTo m k || decide ((2 : Int) ^ (k + 3) = m)) from rfl)
    obtain ⟨P, hP⟩ : ∃ P, (2 : Int) ^ (k + 3) = P := ⟨_, rfl⟩
    obtain ⟨g0, hg0⟩ : ∃ g0, goodTo m k = g0 := ⟨_, rfl⟩
    rw [hP] at b1 b2 b3 b4 HG ⊢
    rw [hg0] at HG ⊢
    by_cases hlt : k < 10
    · have hP4 : P ≤ 4096 := b4.2 hlt
      have hw2 : IntKind.i64.wrap (P * 2) = P * 2 := IntWalk.i64_in _ ⟨by omega, by omega⟩
      have HB := hid b3
      clear b3 b4 hP hg0
      cases g0 with
      | true =>
        have HE := hid (show goodTo m (k + 1) = true from by rw [HG.out]; rfl)
        clear HG
        go_wp2
        go_roundw
        case rel => exact ⟨k + 1, by omega, by rw [HE.out], by rw [HB.out], by first | rfl | trivial⟩
        case measure => simp [intOf]; omega
      | false =>
        by_cases he : P = m
        · have hb : (P == m) = true := by simp [he]
          have HE := hid (show goodTo m (k + 1) = true from by rw [HG.out]; simp [he])
          clear he HG
          go_wp2
          go_roundw
          case rel => exact ⟨k + 1, by omega, by rw [HE.out], by rw [HB.out], by first | rfl | trivial⟩
          case measure => simp [intOf]; omega
        · have hb : (P == m) = false := by simp [he]
          have HE := hid (show goodTo m (k + 1) = false from by rw [HG.out]; simp [he])
          clear he HG
          go_wp2
          go_roundw
          case rel => exact ⟨k + 1, by omega, by rw [HE.out], by rw [HB.out], by first | rfl | trivial⟩
          case measure => simp [intOf]; omega
    · have hP4 : ¬ P ≤ 4096 := fun h => hlt (b4.1 h)
      have hk10 : k = 10 := by omega
      subst hk10
      rw [good_mul] at hg0
      subst hg0
      clear b3 b4 HG hP
      rw [HMU.out]
      go_wp2_with fail
      refine HM.out.mono ?_
      rintro e w1 ⟨rfl, rfl⟩
      go_wp2_with fail
      refine (HN.out _).mono ?_
      rintro e w1 ⟨rfl, rfl⟩
      go_wp2_with fail
      refine HF.out.mono ?_
      rintro e w2 ⟨rfl, V2, G2, h2, k2, v2⟩
      have H2 := hid h2
      have P2 := hid (And.intro k2 v2)
      have cc := h2.b
      obtain ⟨ao, cap, rfl⟩ := h2.row.slice
      obtain ⟨N, hN⟩ : ∃ N, (A ++ (a, s, false) :: r).length = N := ⟨_, rfl⟩
      obtain ⟨g, hg, c1, -, -, -, -, -⟩ := h2.row.at (k := i) (by have := HI.out.1; simp; omega) (show (A ++ (a, s, false) :: r)[i]! = (a, s, false) by rw [← HI.out.1]; exact mid_at _ _ _)
      subst hg
      rw [hN] at cc
      have hiN : (i : Int) < N := by have := HI.out.1; rw [← hN]; simp; omega
      have hwa : IntKind.i64.wrap (a + 8) = a + 8 := IntWalk.i64_in _ ⟨by omega, by omega⟩
      have hwa2 : IntKind.i64.wrap (a + 24) = a + 24 := IntWalk.i64_in _ ⟨by omega, by omega⟩
      clear h2 k2 v2 hN HF HM
      go_wp2_with fail
      go_loopw [11] (fun v wr => ∃ x : Int, a + 8 ≤ x ∧ x ≤ a + 8 ∧ v = .int .i64 x ∧ wr = w2) (fun v _ => (a + 8 - intOf v).toNat)
      case atStart => exact ⟨a + 8, by omega, by omega, rfl, rfl⟩
      case round =>
        obtain ⟨x, x1, x2, rfl, hwr⟩ := hrel
        have hwr := hwr.symm
        subst hwr
        have x0 : 0 ≤ x := by omega
        have m0 : m ≠ 0 := by omega
        have hwx : IntKind.i64.wrap (x + 1) = x + 1 := IntWalk.i64_in _ ⟨by omega, by omega⟩
        by_cases hxb : x < a + 8
        · exact absurd hxb (by omega)
        · have hxe : x = a + 8 := by omega
          have hy : x % m = 0 := by rw [hxe]; exact HF7.out
          have hyb : (x % m != 0) = false := by simp [hy]
          have hw8 : IntKind.i64.wrap (x - 8) = x - 8 := IntWalk.i64_in _ ⟨by omega, by omega⟩
          have hw9 : IntKind.i64.wrap (x - 8 - a) = x - 8 - a := IntWalk.i64_in _ ⟨by omega, by omega⟩
          have hx8 : ¬ a + 8 < x := by omega
          have hah : ¬ (0 : Int) < x - 8 - a := by omega
          have HQ := H2
          clear hy hxb
          go_wp2_with fail
          refine (HN.out _).mono ?_
          rintro e w3 ⟨rfl, rfl⟩
          by_cases hr : 16 ≤ s - z
          · have HR0 := hid hr
            go_wp2_with fail
            refine (rsplit_mid HQ.out HI.out.1.symm (by have := HL.out.1; simp at this ⊢; omega) (by omega) (by omega) (by omega) (by omega) (by omega) (by omega) hr).mono ?_
            rintro e w4 ⟨rfl, V4, G4, h4, k4, v4⟩
            have H4 := hid h4
            have P4 := hid (And.intro k4 v4)
            clear h4 k4 v4
            go_wp2_with fail
            refine (rput_next H4.out (by have := HI.out; omega) (by have := HL.out.1; simp at this ⊢; omega) hr (by omega) (by have := HL.out.2 (kl (s - z)); omega)).mono ?_
            rintro e w5 ⟨rfl, V5, G5, h5, k5, v5⟩
            have HR := hid (Rg.past P2.out.1 P2.out.2 (Rg.past P4.out.1 P4.out.2 ⟨_, _, h5, k5, v5⟩))
            clear h5 k5 v5
            go_wp2
            go_ret2
            refine ⟨rfl, ?_⟩
            unfold giveR
            rw [if_pos HR0.out]
            exact HR.out
          · have HR0 := hid hr
            have HS := hid (rsplit_no _ hb _ mv _ _ _ i a s z false HQ.out (by have := HL.out.1; simp at this ⊢; omega) (by have := HI.out; simp; omega) (by rw [← HI.out.1]; exact mid_at _ _ _) (by omega) (by omega) (by omega) (by omega) (by omega))
            go_wp2_with fail
            refine HS.out.mono ?_
            rintro e w4 ⟨rfl, rfl⟩
            have HR := hid (Rg.past P2.out.1 P2.out.2 (Rg.refl HQ.out))
            go_wp2
            go_ret2
            refine ⟨rfl, ?_⟩
            unfold giveR
            rw [if_neg (by have := HR0.out; omega)]
            exact HR.out
end Go.Proofs.YtgefmnnkpffpcaaGreatDoor
