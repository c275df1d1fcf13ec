/- The reference: Alloc. -/
import Derived.Test.YtgefmnnkpffpcaaGreatDoorRgetJ
import Derived.Test.YtgefmnnkpffpcaaGreatDoorRfindJ
import Derived.Test.YtgefmnnkpffpcaaGreatDoorRlookJ
namespace Go.Proofs.YtgefmnnkpffpcaaGreatDoor
open Go.RowKit Go.Maps

section
variable {w : World} {hb : Nat} {V mv : Value} {G : Nat → Value} {A r B : List Bl} {F : Nat → List Int} {a z b t s n : Int} {f f2 : Bool} {i : Nat}
theorem rput_next (h : Rh w hb V G mv (A ++ (a, z, f) :: (b, t, f2) :: r) F) (hi : i = A.length + 1) (hl : (A ++ (a, z, f) :: (b, t, f2) :: r).length ≤ 100000) (hz : 16 ≤ t) (hz2 : t < 65536) (hF : (F (kl t)).length ≤ 10000) :
    Calls Tryz.prog 32 #[.pointer (some ⟨hb, 0, none⟩), .int .i64 i] w fun e w' => e = .returned (.tuple #[]) ∧ Rg w w' hb V G mv (A ++ (a, z, f) :: (b, t, true) :: r) (adF F (kl t) b) := by
  have e1 : A ++ (a, z, f) :: (b, t, f2) :: r = (A ++ [(a, z, f)]) ++ (b, t, f2) :: r := by simp
  rw [e1] at h hl
  have := rput_mid (i := i) h (by simp; exact hi) hl hz hz2 hF
  simpa using this
theorem rsplit_mid (h : Rh w hb V G mv (A ++ (a, s, f) :: r) F) (hi : i = A.length) (hl : (A ++ (a, s, f) :: r).length ≤ 100000) (ha : 0 ≤ a) (ha2 : a ≤ 1000000) (hs : 0 ≤ s) (hs2 : s ≤ 1000000) (hz : 0 ≤ z) (hz2 : z ≤ 1000000) (hr : 16 ≤ s - z) :
    Calls Tryz.prog 80 #[.pointer (some ⟨hb, 0, none⟩), .int .i64 i, .int .i64 z] w fun e w' => e = .returned (.bool true) ∧ Rg w w' hb V G mv (A ++ (a, z, f) :: (a + z, s - z, false) :: r) F := by
  subst hi
  have := rsplit_yes w hb V mv G _ F A.length a s z f h hl (by simp) (mid_at _ _ _) ha ha2 hs hs2 hz hz2 (by omega)
  have e1 : (A ++ (a, s, f) :: r).take A.length = A := by simp
  have e2 : (A ++ (a, s, f) :: r).drop (A.length + 1) = r := by
    rw [List.drop_append, List.drop_eq_nil_of_le (by omega), show A.length + 1 - A.length = 1 by omega]
    rfl
  rw [e1, e2] at this
  exact this
set_option maxRecDepth 100000 in
theorem rAlloc_arg (hm : mayB n = false) : Calls Tryz.prog 34 #[.pointer (some ⟨hb, 0, none⟩), .int .i64 n] w fun e w' => e = .returned (.tuple #[.int .i64 0, .int .i64 2]) ∧ w' = w := by
  have HM := hid (rmay_any w n)
  rw [hm] at HM
  clear hm
  go_enter Tryz.func34, Tryz.ntmps34
  go_wp2_with fail
  refine HM.out.mono ?_
  rintro e w1 ⟨rfl, rfl⟩
  go_wp2
  go_ret2
  exact ⟨rfl, rfl⟩
theorem needed_bd (hm : mayB n = true) : 1 ≤ n ∧ n ≤ 65536 ∧ 16 ≤ needed n ∧ needed n ≤ 65552 := by
  unfold mayB at hm
  have h := of_decide_eq_true hm
  unfold needed
  omega
set_option maxRecDepth 100000 in
theorem rAlloc_none (h : Rh w hb V G mv B F) (hm : mayB n = true) (hF : ∀ c, (clsFor (needed n)).toNat ≤ c → c < 32 → F c = []) : Calls Tryz.prog 34 #[.pointer (some ⟨hb, 0, none⟩), .int .i64 n] w fun e w' => e = .returned (.tuple #[.int .i64 0, .int .i64 5]) ∧ w' = w := by
  obtain ⟨n1, n2, n3, n4⟩ := needed_bd hm
  have HM := hid (rmay_any w n)
  rw [hm] at HM
  have HN := hid (rneed_any w n n1 n2)
  have HF := hid (rfind_no w hb V mv G B F (needed n) h n3 (by omega) hF)
  clear hm h hF
  go_enter Tryz.func34, Tryz.ntmps34
  go_wp2_with fail
  refine HM.out.mono ?_
  rintro e w1 ⟨rfl, rfl⟩
  go_wp2_with fail
  refine HN.out.mono ?_
  rintro e w1 ⟨rfl, rfl⟩
  go_wp2_with fail
  refine HF.out.mono ?_
  rintro e w1 ⟨rfl, rfl⟩
  go_wp2
  go_ret2
  exact ⟨rfl, rfl⟩
end
set_option maxRecDepth 100000 in
set_option maxHeartbeats 1000000 in
theorem rAlloc_some (w : World) (hb : Nat) (V mv : Value) (G : Nat → Value) (A r : List Bl) (F : Nat → List Int) (n a s : Int) (l : List Int) (h : Rh w hb V G mv (A ++ (a, s, true) :: r) F) (hl : (A ++ (a, s, true) :: r).length ≤ 10000) (hm : mayB n = true) (hF : ∀ c, (clsFor (needed n)).toNat ≤ c → c < kl s → F c = []) (hs : 16 ≤ s) (hs2 : s < 65536) (hle : (clsFor (needed n)).toNat ≤ kl s) (hFl : F (kl s) = a :: l) (hll : ∀ c, (F c).length ≤ 10000) (hu : ∀ j, j < (A ++ (a, s, true) :: r).length → (A ++ (a, s, true) :: r)[j]!.1 = a → j = A.length) (ha : 0 ≤ a) (ha2 : a ≤ 1000000) :
    Calls Tryz.prog 34 #[.pointer (some ⟨hb, 0, none⟩), .int .i64 n] w fun e w' => e = .returned (.tuple #[.int .i64 (a + 8), .int .i64 0]) ∧ Rg w w' hb V G mv (giveR A a s (needed n) r (rmF F (kl s) a)).1 (giveR A a s (needed n) r (rmF F (kl s) a)).2 := by
  obtain ⟨n1, n2, n3, n4⟩ := needed_bd hm
  have HM := hid (rmay_any w n)
  rw [hm] at HM
  have HN := hid (fun w1 => rneed_any w1 n n1 n2)
  have HF := hid (rfind_yes w hb V mv G _ F (needed n) A.length a s true l h (by omega) n3 (by omega) hF hs hs2 hle hFl (hll _) (by simp) (mid_at _ _ _) hu)
  rw [mid_set] at HF
  obtain ⟨i, hi⟩ : ∃ i, A.length = i := ⟨_, rfl⟩
  have hil : i < 10000 := by simp at hl; omega
  rw [hi] at HF
  have hwa : IntKind.i64.wrap (a + 8) = a + 8 := IntWalk.i64_in _ ⟨by omega, by omega⟩
  obtain ⟨i1, hi1⟩ : ∃ i1, i + 1 = i1 := ⟨_, rfl⟩
  have hw1 : IntKind.i64.wrap ((i : Int) + 1) = (i1 : Int) := by rw [← hi1]; exact IntWalk.i64_in _ ⟨by omega, by omega⟩
  have HI := hid (And.intro hi hi1)
  have HL := hid (And.intro hl (fun c => Nat.le_trans (rm_len F (kl s) a c) (hll c)))
  unfold giveR
  obtain ⟨m, hmn⟩ : ∃ m, needed n = m := ⟨_, rfl⟩
  rw [hmn] at n3 n4 HN HF ⊢
  clear hm h hF hl hll hu hle hFl hmn hi hi1
  go_enter Tryz.func34, Tryz.ntmps34
  go_wp2_with fail
  refine HM.out.mono ?_
  rintro e w1 ⟨rfl, rfl⟩
  go_wp2_with fail
  refine (HN.out _).mono ?_
  rintro e w1 ⟨rfl, rfl⟩
  go_wp2_with fail
  refine HF.out.mono ?_
  rintro e w2 ⟨rfl, V2, G2, h2, k2, v2⟩
  have H2 := hid h2
  have P2 := hid (And.intro k2 v2)
  clear h2 k2 v2
  go_wp2_with fail
  refine (HN.out _).mono ?_
  rintro e w3 ⟨rfl, rfl⟩
  by_cases hr : 16 ≤ s - m
  · have HR0 := hid hr
    go_wp2_with fail
    refine (rsplit_mid H2.out HI.out.1.symm (by have := HL.out.1; simp at this ⊢; omega) ha ha2 (by omega) (by omega) (by omega) (by omega) hr).mono ?_
    rintro e w4 ⟨rfl, V4, G4, h4, k4, v4⟩
    have H4 := hid h4
    have P4 := hid (And.intro k4 v4)
    clear h4 k4 v4
    go_wp2_with fail
    refine (rput_next H4.out (by have := HI.out; omega) (by have := HL.out.1; simp at this ⊢; omega) hr (by omega) (HL.out.2 _)).mono ?_
    rintro e w5 ⟨rfl, V5, G5, h5, k5, v5⟩
    have cc := h5.b
    obtain ⟨ao, cap, rfl⟩ := h5.row.slice
    obtain ⟨N, hN⟩ : ∃ N, (A ++ (a, m, false) :: (a + m, s - m, true) :: r).length = N := ⟨_, rfl⟩
    obtain ⟨g, hg, c1, -, -, -, -, -⟩ := h5.row.at (k := i) (by have := HI.out.1; simp; omega) (show (A ++ (a, m, false) :: (a + m, s - m, true) :: r)[i]! = (a, m, false) by rw [← HI.out.1]; exact mid_at _ _ _)
    subst hg
    rw [hN] at cc
    have hiN : (i : Int) < N := by have := HI.out.1; rw [← hN]; simp; omega
    have HR := hid (Rg.past P2.out.1 P2.out.2 (Rg.past P4.out.1 P4.out.2 ⟨_, _, h5, k5, v5⟩))
    clear h5 k5 v5 hN
    go_wp2
    go_ret2
    refine ⟨rfl, ?_⟩
    exact HR.out
  · have HR0 := hid hr
    have H3 := H2.out
    have cc := H3.b
    obtain ⟨ao, cap, rfl⟩ := H3.row.slice
    obtain ⟨N, hN⟩ : ∃ N, (A ++ (a, s, false) :: r).length = N := ⟨_, rfl⟩
    obtain ⟨g, hg, c1, -, -, -, -, -⟩ := H3.row.at (k := i) (by have := HI.out.1; simp; omega) (show (A ++ (a, s, false) :: r)[i]! = (a, s, false) by rw [← HI.out.1]; exact mid_at _ _ _)
    subst hg
    rw [hN] at cc
    have hiN : (i : Int) < N := by have := HI.out.1; rw [← hN]; simp; omega
    have HS := hid (rsplit_no w3 hb _ mv G2 _ _ i a s m false H3 (by have := HL.out.1; simp at this ⊢; omega) (by have := HI.out.1; simp; omega) (by rw [← HI.out.1]; exact mid_at _ _ _) (by omega) (by omega) (by omega) (by omega) (by omega))
    clear H3 hN
    go_wp2_with fail
    refine HS.out.mono ?_
    rintro e w4 ⟨rfl, rfl⟩
    have HR := hid (Rg.past P2.out.1 P2.out.2 (Rg.refl H2.out))
    go_wp2
    go_ret2
    refine ⟨rfl, ?_⟩
    exact HR.out
end Go.Proofs.YtgefmnnkpffpcaaGreatDoor

/- The reference: Aligned, plainly. No Go is walked here. -/
namespace Go.Proofs.YtgefmnnkpffpcaaGreatDoor
open Go.RowKit Go.Maps

/-- One of the first k multiples. -/
def goodTo (m : Int) : Nat → Bool
  | 0 => false
  | k + 1 => goodTo m k || decide ((2 : Int) ^ (k + 3) = m)
theorem good_iff (m : Int) : ∀ k, goodTo m k = true ↔ ∃ j, j < k ∧ (2 : Int) ^ (j + 3) = m
  | 0 => by simp [goodTo]
  | k + 1 => by
    rw [goodTo, Bool.or_eq_true, good_iff m k, decide_eq_true_eq]
    constructor
    · rintro (⟨j, h1, h2⟩ | h)
      · exact ⟨j, by omega, h2⟩
      · exact ⟨k, by omega, h⟩
    · rintro ⟨j, h1, h2⟩
      by_cases e : j = k
      · exact .inr (e ▸ h2)
      · exact .inl ⟨j, by omega, h2⟩
theorem good_mul (m : Int) : goodTo m 10 = isMul m := by
  have hd : ∀ j, j < 10 → isMul ((2 : Int) ^ (j + 3)) = true := by decide
  rw [Bool.eq_iff_iff, good_iff]
  constructor
  · rintro ⟨j, h1, rfl⟩
    exact hd j h1
  · intro h
    obtain ⟨k, h1, h2, h3⟩ := mul_pow h
    exact ⟨k - 3, by omega, by rw [show k - 3 + 3 = k by omega, h3]⟩
theorem two_bd : ∀ k, k ≤ 10 → 8 ≤ (2 : Int) ^ (k + 3) ∧ (2 : Int) ^ (k + 3) ≤ 8192 ∧ (2 : Int) ^ (k + 1 + 3) = (2 : Int) ^ (k + 3) * 2 ∧ ((2 : Int) ^ (k + 3) ≤ 4096 ↔ k < 10) := by decide
/-- It goes on from there. -/
def onAt (a m x : Int) : Prop := x % m ≠ 0 ∨ (a + 8 < x ∧ x < a + 24)
theorem at_go {a m x : Int} (hm : 8 ≤ m) (h1 : a + 8 ≤ x) (h2 : x < alignedFrom a m + 8) : onAt a m x := by
  unfold onAt
  unfold alignedFrom at h2
  by_cases h : (a + 8) % m = 0
  · rw [if_pos h] at h2
    omega
  · rw [if_neg h] at h2
    by_cases hx : x % m = 0
    · refine .inr ⟨?_, ?_⟩
      · rcases Int.lt_or_le (a + 8) x with h3 | h3
        · exact h3
        · exact absurd (show (a + 8) % m = 0 by rw [show a + 8 = x by omega]; exact hx) h
      · rcases Int.lt_or_le x (a + 24) with h3 | h3
        · exact h3
        · exfalso
          have e1 := Int.emod_add_mul_ediv x m
          have e2 := Int.ediv_mul_le (a + 24 + m - 1) (show m ≠ 0 by omega)
          rw [hx] at e1
          obtain ⟨d, hd⟩ : ∃ d, (a + 24 + m - 1) / m = d := ⟨_, rfl⟩
          obtain ⟨y, hy⟩ : ∃ y, x / m = y := ⟨_, rfl⟩
          rw [hd] at e2 h2
          rw [hy] at e1
          have h4 : y < d := by
            rcases Int.lt_or_le y d with h5 | h5
            · exact h5
            · have := Int.mul_le_mul_of_nonneg_right h5 (show 0 ≤ m by omega)
              have e3 : y * m = m * y := Int.mul_comm _ _
              omega
          have h6 : (y + 1) * m ≤ d * m := Int.mul_le_mul_of_nonneg_right (by omega) (by omega)
          rw [Int.add_mul] at h6
          have e3 : y * m = m * y := Int.mul_comm _ _
          omega
    · exact .inl hx
theorem at_stop {a m : Int} {k : Nat} (hm : m = 2 ^ k) (hk3 : 3 ≤ k) (ha8 : a % 8 = 0) : ¬ onAt a m (alignedFrom a m + 8) := by
  obtain ⟨h1, h2, h3, h4, h5, h6, h7⟩ := aligned_facts hm hk3 ha8
  unfold onAt
  rintro (h | h)
  · exact h h7
  · omega
end Go.Proofs.YtgefmnnkpffpcaaGreatDoor

/- The reference: Aligned, where a block is left in front. -/
namespace Go.Proofs.YtgefmnnkpffpcaaGreatDoor
open Go.RowKit Go.Maps

set_option maxRecDepth 100000 in
set_option maxHeartbeats 4000000 in
theorem rAl_from (w : World) (hb : Nat) (V mv : Value) (G : Nat → Value) (A r : List Bl) (F : Nat → List Int) (m n a s : Int) (l : List Int) (k0 : Nat) (h : Rh w hb V G mv (A ++ (a, s, true) :: r) F) (hl : (A ++ (a, s, true) :: r).length ≤ 9990) (hk0 : m = 2 ^ k0) (hk3 : 3 ≤ k0) (hm : isMul m = true) (hn : mayB n = true) (hF : ∀ c, (clsFor (needed n + m + 16)).toNat ≤ c → c < kl s → F c = []) (hs : 16 ≤ s) (hs2 : s < 65536) (hle : (clsFor (needed n + m + 16)).toNat ≤ kl s) (hFl : F (kl s) = a :: l) (hll : ∀ c, (F c).length ≤ 9990) (hu : ∀ j, j < (A ++ (a, s, true) :: r).length → (A ++ (a, s, true) :: r)[j]!.1 = a → j = A.length) (ha : 0 ≤ a) (ha2 : a ≤ 100000) (ha8 : a % 8 = 0) (hfit : alignedFrom a m + needed n ≤ a + s) (hab : 16 ≤ alignedFrom a m - a) :
    Calls Tryz.prog 37 #[.pointer (some ⟨hb, 0, none⟩), .int .i64 m, .int .i64 n] w fun e w' => e = .returned (.tuple #[.int .i64 (alignedFrom a m + 8), .int .i64 0]) ∧ Rg w w' hb V G mv (fromR A a s (alignedFrom a m) (needed n) r (rmF F (kl s) a)).1 (fromR A a s (alignedFrom a m) (needed n) r (rmF F (kl s) a)).2 := by
  obtain ⟨n1, n2, n3, n4⟩ := needed_bd hn
  have hmb : 8 ≤ m ∧ m ≤ 4096 := by
    unfold isMul at hm
    rw [Bool.and_eq_true] at hm
    exact of_decide_eq_true hm.1
  have HM := hid (rmay_any w n)
  rw [hn] at HM
  have HN := hid (fun w1 => rneed_any w1 n n1 n2)
  have HF := hid (rfind_yes w hb V mv G _ F (needed n + m + 16) A.length a s true l h (by omega) (by omega) (by omega) hF hs hs2 hle hFl (by have := hll (kl s); omega) (by simp) (mid_at _ _ _) hu)
  rw [mid_set] at HF
  have HMU := hid hm
  have AF := aligned_facts (a := a) hk0 hk3 ha8
  have HGO := hid (fun x => at_go (a := a) (m := m) (x := x) hmb.1)
  have HST := hid (at_stop hk0 hk3 ha8)
  obtain ⟨b, hb0⟩ : ∃ b, alignedFrom a m = b := ⟨_, rfl⟩
  rw [hb0] at AF HGO HST hfit hab
  (try rw [hb0])
  obtain ⟨-, -, f3, -, f5, -, f7⟩ := AF
  have HF7 := hid f7
  obtain ⟨i, hi⟩ : ∃ i, A.length = i := ⟨_, rfl⟩
  have hil : i < 9990 := by simp at hl; omega
  rw [hi] at HF
  obtain ⟨z, hz⟩ : ∃ z, needed n = z := ⟨_, rfl⟩
  rw [hz] at n3 n4 HN HF hfit ⊢
  have hw1 : IntKind.i64.wrap (z + m) = z + m := IntWalk.i64_in _ ⟨by omega, by omega⟩
  have hw2 : IntKind.i64.wrap (z + m + 16) = z + m + 16 := IntWalk.i64_in _ ⟨by omega, by omega⟩
  obtain ⟨i1, hi1⟩ : ∃ i1, i + 1 = i1 := ⟨_, rfl⟩
  have hw3 : IntKind.i64.wrap ((i : Int) + 1) = (i1 : Int) := by rw [← hi1]; exact IntWalk.i64_in _ ⟨by omega, by omega⟩
  have HI := hid (And.intro hi hi1)
  have HL := hid (And.intro hl (fun c => Nat.le_trans (rm_len F (kl s) a c) (hll c)))
  clear h hm hn hF hz hl hll hu hle hFl hi hi1 hk0 hk3 ha8 hb0 f7
  go_enter Tryz.func37, Tryz.ntmps37
  go_wp2_with fail
  go_loopw [8, 9] (fun vg vp wr => ∃ k : Nat, k ≤ 10 ∧ vg = .bool (goodTo m k) ∧ vp = .int .i64 ((2 : Int) ^ (k + 3)) ∧ wr = w) (fun _ vp _ => (8192 - intOf vp).toNat)
  case atStart => exact ⟨0, by omega, rfl, rfl, rfl⟩
  case round =>
    obtain ⟨k, hk, rfl, rfl, hw⟩ := hrel
    have hw := hw.symm
    subst hw
    obtain ⟨b1, b2, b3, b4⟩ := two_bd k hk
    have HG := hid (show goodTo m (k + 1) = (goodTo m k || decide ((2 : Int) ^ (k + 3) = m)) from rfl)
    obtain ⟨P, hP⟩ : ∃ P, (2 : Int) ^ (k + 3) = P := ⟨_, rfl⟩
    obtain ⟨g0, hg0⟩ : ∃ g0, goodTo m k = g0 := ⟨_, rfl⟩
    rw [hP] at b1 b2 b3 b4 HG ⊢
    rw [hg0] at HG ⊢
    by_cases hlt : k < 10
    · have hP4 : P ≤ 4096 := b4.2 hlt
      have hw2 : IntKind.i64.wrap (P * 2) = P * 2 := IntWalk.i64_in _ ⟨by omega, by omega⟩
      have HB := hid b3
      clear b3 b4 hP hg0
      cases g0 with
      | true =>
        have HE := hid (show goodTo m (k + 1) = true from by rw [HG.out]; rfl)
        clear HG
        go_wp2
        go_roundw
        case rel => exact ⟨k + 1, by omega, by rw [HE.out], by rw [HB.out], by first | rfl | trivial⟩
        case measure => simp [intOf]; omega
      | false =>
        by_cases he : P = m
        · have hb : (P == m) = true := by simp [he]
          have HE := hid (show goodTo m (k + 1) = true from by rw [HG.out]; simp [he])
          clear he HG
          go_wp2
          go_roundw
          case rel => exact ⟨k + 1, by omega, by rw [HE.out], by rw [HB.out], by first | rfl | trivial⟩
          case measure => simp [intOf]; omega
        · have hb : (P == m) = false := by simp [he]
          have HE := hid (show goodTo m (k + 1) = false from by rw [HG.out]; simp [he])
          clear he HG
          go_wp2
          go_roundw
          case rel => exact ⟨k + 1, by omega, by rw [HE.out], by rw [HB.out], by first | rfl | trivial⟩
          case measure => simp [intOf]; omega
    · have hP4 : ¬ P ≤ 4096 := fun h => hlt (b4.1 h)
      have hk10 : k = 10 := by omega
      subst hk10
      rw [good_mul] at hg0
      subst hg0
      clear b3 b4 HG hP
      rw [HMU.out]
      go_wp2_with fail
      refine HM.out.mono ?_
      rintro e w1 ⟨rfl, rfl⟩
      go_wp2_with fail
      refine (HN.out _).mono ?_
      rintro e w1 ⟨rfl, rfl⟩
      go_wp2_with fail
      refine HF.out.mono ?_
      rintro e w2 ⟨rfl, V2, G2, h2, k2, v2⟩
      have H2 := hid h2
      have P2 := hid (And.intro k2 v2)
      have cc := h2.b
      obtain ⟨ao, cap, rfl⟩ := h2.row.slice
      obtain ⟨N, hN⟩ : ∃ N, (A ++ (a, s, false) :: r).length = N := ⟨_, rfl⟩
      obtain ⟨g, hg, c1, -, -, -, -, -⟩ := h2.row.at (k := i) (by have := HI.out.1; simp; omega) (show (A ++ (a, s, false) :: r)[i]! = (a, s, false) by rw [← HI.out.1]; exact mid_at _ _ _)
      subst hg
      rw [hN] at cc
      have hiN : (i : Int) < N := by have := HI.out.1; rw [← hN]; simp; omega
      have hwa : IntKind.i64.wrap (a + 8) = a + 8 := IntWalk.i64_in _ ⟨by omega, by omega⟩
      have hwa2 : IntKind.i64.wrap (a + 24) = a + 24 := IntWalk.i64_in _ ⟨by omega, by omega⟩
      clear h2 k2 v2 hN HF HM
      go_wp2_with fail
      go_loopw [11] (fun v wr => ∃ x : Int, a + 8 ≤ x ∧ x ≤ b + 8 ∧ v = .int .i64 x ∧ wr = w2) (fun v _ => (b + 8 - intOf v).toNat)
      case atStart => exact ⟨a + 8, by omega, by omega, rfl, rfl⟩
      case round =>
        obtain ⟨x, x1, x2, rfl, hwr⟩ := hrel
        have hwr := hwr.symm
        subst hwr
        have x0 : 0 ≤ x := by omega
        have m0 : m ≠ 0 := by omega
        have hwx : IntKind.i64.wrap (x + 1) = x + 1 := IntWalk.i64_in _ ⟨by omega, by omega⟩
        by_cases hxb : x < b + 8
        · have hon := HGO.out x x1 hxb
          unfold onAt at hon
          by_cases hy : x % m = 0
          · have hyb : (x % m != 0) = false := by simp [hy]
            have h7 : a + 8 < x := by omega
            have h8 : x < a + 24 := by omega
            clear hon hy
            go_wp2
            go_roundw
            case rel => exact ⟨x + 1, by omega, by omega, rfl, by first | rfl | trivial⟩
            case measure => simp [intOf]; omega
          · have hyb : (x % m != 0) = true := by simp [hy]
            clear hon hy
            go_wp2
            go_roundw
            case rel => exact ⟨x + 1, by omega, by omega, rfl, by first | rfl | trivial⟩
            case measure => simp [intOf]; omega
        · have hxe : x = b + 8 := by omega
          have hy : x % m = 0 := by rw [hxe]; exact HF7.out
          have hyb : (x % m != 0) = false := by simp [hy]
          have hw8 : IntKind.i64.wrap (x - 8) = x - 8 := IntWalk.i64_in _ ⟨by omega, by omega⟩
          have hw9 : IntKind.i64.wrap (x - 8 - a) = x - 8 - a := IntWalk.i64_in _ ⟨by omega, by omega⟩
          have hx8 : a + 8 < x := by omega
          have hx24 : ¬ x < a + 24 := by omega
          have hah : (0 : Int) < x - 8 - a := by omega
          obtain ⟨i2, hi2⟩ : ∃ i2, i1 + 1 = i2 := ⟨_, rfl⟩
          have HI2 := hid hi2
          have hw4 : IntKind.i64.wrap ((i1 : Int) + 1) = (i2 : Int) := by have := HI.out; rw [← hi2]; exact IntWalk.i64_in _ ⟨by omega, by omega⟩
          clear hy hxb hi2
          go_wp2_with fail
          refine (rsplit_mid (z := b - a) H2.out HI.out.1.symm (by have := HL.out.1; simp at this ⊢; omega) ha (by omega) (by omega) (by omega) (by omega) (by omega) (by omega)).mono ?_
          rintro e w4 ⟨rfl, V4, G4, h4, k4, v4⟩
          have H4 := hid h4
          have P4 := hid (And.intro k4 v4)
          clear h4 k4 v4
          go_wp2_with fail
          refine (rput_mid H4.out HI.out.1.symm (by have := HL.out.1; simp at this ⊢; omega) (by omega) (by omega) (by have := HL.out.2 (kl (b - a)); omega)).mono ?_
          rintro e w5 ⟨rfl, V5, G5, h5, k5, v5⟩
          have P5 := hid (And.intro k5 v5)
          have HQ := hid (show Rh w5 hb V5 G5 mv ((A ++ [(a, b - a, true)]) ++ (b, a + s - b, false) :: r) (adF (rmF F (kl s) a) (kl (b - a)) a) from by
            rw [show a + (b - a) = b by omega, show s - (b - a) = a + s - b by omega] at h5
            simpa using h5)
          have HAD := hid (show ∀ c, (adF (rmF F (kl s) a) (kl (b - a)) a c).length ≤ 9991 from fun c => by
            have h1 := HL.out.2 c
            have h2 := HL.out.2 (kl (b - a))
            unfold adF
            split
            · rw [List.length_cons]
              omega
            · omega)
          clear h5 k5 v5
          go_wp2_with fail
          refine (HN.out _).mono ?_
          rintro e w6 ⟨rfl, rfl⟩
          by_cases hr : 16 ≤ (a + s - b) - z
          · have HR0 := hid hr
            go_wp2_with fail
            refine (rsplit_mid HQ.out (by have := HI.out; simp; omega) (by have := HL.out.1; simp at this ⊢; omega) (by omega) (by omega) (by omega) (by omega) (by omega) (by omega) hr).mono ?_
            rintro e w4 ⟨rfl, V4, G4, h4, k4, v4⟩
            have H4 := hid h4
            have P7 := hid (And.intro k4 v4)
            clear h4 k4 v4
            go_wp2_with fail
            refine (rput_next H4.out (by have := HI.out; have := HI2.out; simp; omega) (by have := HL.out.1; simp at this ⊢; omega) hr (by omega) (by have := HAD.out (kl (a + s - b - z)); omega)).mono ?_
            rintro e w5 ⟨rfl, V5, G5, h5, k5, v5⟩
            have HR := hid (Rg.past P2.out.1 P2.out.2 <| Rg.past P4.out.1 P4.out.2 <| Rg.past P5.out.1 P5.out.2 (Rg.past P7.out.1 P7.out.2 ⟨_, _, h5, k5, v5⟩))
            clear h5 k5 v5
            go_wp2
            go_ret2
            refine ⟨rfl, ?_⟩
            unfold fromR giveR
            rw [if_pos HR0.out]
            exact HR.out
          · have HR0 := hid hr
            have HS := hid (rsplit_no _ hb _ mv _ _ _ i1 b (a + s - b) z false HQ.out (by have := HL.out.1; simp at this ⊢; omega) (by have := HI.out; simp; omega) (by have := HI.out; rw [show i1 = (A ++ [(a, b - a, true)]).length by simp; omega]; exact mid_at _ _ _) (by omega) (by omega) (by omega) (by omega) (by omega))
            go_wp2_with fail
            refine HS.out.mono ?_
            rintro e w4 ⟨rfl, rfl⟩
            have HR := hid (Rg.past P2.out.1 P2.out.2 <| Rg.past P4.out.1 P4.out.2 <| Rg.past P5.out.1 P5.out.2 (Rg.refl HQ.out))
            go_wp2
            go_ret2
            refine ⟨rfl, ?_⟩
            unfold fromR giveR
            rw [if_neg (by have := HR0.out; omega)]
            exact HR.out
end Go.Proofs.YtgefmnnkpffpcaaGreatDoor
