/- symMerge, where the second part is one alone. -/
import Derived.Test.YtoaceeddcnijoaaSym
namespace Go.Proofs.Ytoaceeddcnijoaa
open Go.RowKit Go.Shelf Go.Lib Go.Sort

set_option maxRecDepth 100000 in
set_option maxHeartbeats 4000000 in
theorem sym_last (w0 : World) (blk cap : Nat) (A X : List Dl) (y : Dl) (R : List Dl) (L0 : List Dl) (W : World) (a m b N : Nat) (hS : Sw w0 blk (A ++ (X ++ y :: R)) W) (h0 : Hk w0 blk L0) (hl : L0.length = N) (hN : N = (A ++ (X ++ y :: R)).length) (hblk : blk < w0.heap.size) (ha : a = A.length) (hm : m = a + X.length) (hb : b = m + 1) (hX : Asc X) (hX1 : X.length ≠ 1) (hsz : N < 1000000) :
    Calls Try.prog 48 #[.slice (some ⟨blk, 0, none⟩) N cap, .int .i64 a, .int .i64 m, .int .i64 b, cmpV] W fun e w' => e = .returned (.tuple #[]) ∧ ∃ Z, St (X ++ [y]) Z ∧ Sw w0 blk (A ++ Z ++ R) w' := by
  obtain ⟨y1, y2⟩ := y
  obtain ⟨L, hL⟩ : ∃ L, A ++ (X ++ (y1, y2) :: R) = L := ⟨_, rfl⟩
  rw [hL] at hS hN
  have hbN : b ≤ N := by rw [hN, ← hL]; simp; omega
  have hLy : L[m]! = (y1, y2) := by rw [← hL, show m = (A ++ X).length by simp; omega, ← List.append_assoc, get_at]
  have hLx : ∀ t, t < X.length → L[a + t]! = X[t]! := fun t ht => by
    rw [← hL, get_mid _ _ _ (by omega), show a + t - A.length = t by omega]
    rw [List.getElem!_eq_getElem?_getD, List.getElem!_eq_getElem?_getD, List.getElem?_append_left ht]
  obtain ⟨d, hd⟩ : ∃ d : Nat, X.length = d := ⟨_, rfl⟩
  have w1 : IntKind.i64.wrap ((m : Int) - a) = (d : Int) := by rw [show (m : Int) - a = (d : Int) by omega]; exact IntWalk.i64_in _ ⟨by omega, by omega⟩
  have hd1 : ((d : Int) == 1) = false := by rw [beq_eq_false_iff_ne]; omega
  have w2 : IntKind.i64.wrap ((b : Int) - m) = 1 := by rw [show (b : Int) - m = 1 by omega]; rfl
  have HH := hid (show ∀ wr, Sw w0 blk L wr → Hk wr blk L from fun wr h => h.holds hblk h0 (by simp; omega))
  have HE := hid (And.intro hL (And.intro hLy hLx))
  have HB := hid (And.intro ha (And.intro hm hb))
  have HS := hid hS
  have H0 := hid h0
  have HN := hid hN
  have HL := hid hl
  have HX := hid hX
  have hmb : a ≤ m ∧ m < N := by omega
  have hmx : Try.prog.follows .mixedOrders = true := by kernel_rfl
  have eg := enters42
  have hLN := hid (show L.length = N by omega)
  clear hS h0 hl hN ha hm hb hX hL hLx hLy hd hX1
  go_enter Try.func48, Try.ntmps48
  go_wp2_with fail
  go_loopw [14, 15] (fun vi vj wr => ∃ i j : Nat, a ≤ i ∧ i ≤ j ∧ j ≤ m ∧ vi = .int .i64 i ∧ vj = .int .i64 j ∧ Hid ((∀ x ∈ X.take (i - a), x.2 ≤ y2) ∧ (∀ x ∈ X.drop (j - a), y2 < x.2)) ∧ Hid (Sw w0 blk L wr)) (fun vi vj _ => (intOf vj).toNat - (intOf vi).toNat)
  case atStart => exact ⟨a, m, Nat.le_refl _, hmb.1, Nat.le_refl _, rfl, rfl, ⟨by simp, by have := HB.out; rw [List.drop_eq_nil_of_le (by omega)]; simp⟩, HS⟩
  case round =>
    obtain ⟨i, j, hmi, hij, hjb, rfl, rfl, hQ, hSi⟩ := hrel
    by_cases hlt : i < j
    · have hltI : (i : Int) < j := by omega
      obtain ⟨s, hs⟩ : ∃ s, i + j = s := ⟨_, rfl⟩
      obtain ⟨h, hh⟩ : ∃ h, s / 2 = h := ⟨_, rfl⟩
      have hr : i ≤ h ∧ h < j := by omega
      have hhN : h < N := by omega
      have hhI : (h : Int) < N := by omega
      have hmI : (m : Int) < N := by omega
      have ws : IntKind.i64.wrap ((i : Int) + j) = (s : Int) := by rw [show (i : Int) + j = (s : Int) by omega]; exact IntWalk.i64_in _ ⟨by omega, by omega⟩
      have wu : IntKind.u64.wrap (s : Int) = (s : Int) := IntWalk.u64_in _ ⟨by omega, by omega⟩
      have w64 : wrap64 (h : Int) = (h : Int) := IntWalk.wrap64_in _ ⟨by omega, by omega⟩
      have wsh := mid_div hh
      clear hs hh
      have WW := hid (And.intro ws (And.intro wu (And.intro w64 wsh)))
      clear ws wu w64 wsh
      have hhb := hSi.out.lt hblk
      obtain ⟨x1, x2, hx⟩ : ∃ x1 x2, L[h]! = (x1, x2) := ⟨L[h]!.1, L[h]!.2, rfl⟩
      obtain ⟨c1, c2⟩ := cells_grown (HH.out _ hSi.out) hhb (show h < L.length by have := hLN.out; omega) hx
      obtain ⟨d1, d2⟩ := cells_grown (HH.out _ hSi.out) hhb (show m < L.length by have := hLN.out; omega) HE.out.2.1
      have HXh := hid (show X[h - a]! = (x1, x2) by have := HE.out.2.2 (h - a) (by have := HB.out; omega); rw [← this, show a + (h - a) = h by omega]; exact hx)
      obtain ⟨r, hre⟩ : ∃ r, cfD (y1, y2) (x1, x2) = r := ⟨_, rfl⟩
      have hcg := calls_grown y1 y2 x1 x2 r hre wr
      have hrl := cf_lt (x := (y1, y2)) (y := (x1, x2))
      rw [hre] at hrl
      simp only at hrl
      clear hx hre
      by_cases hlv : y2 < x2
      · have hr0 : r < 0 := hrl.2 hlv
        have HQ := hid (show (∀ x ∈ X.drop (h - a), y2 < x.2) by
          intro x hx
          have := asc_back HX.out (k := h - a) (by have := HB.out; omega) x hx
          rw [HXh.out] at this
          simp only at this
          omega)
        clear hrl hlv
        obtain ⟨ws, wu, w64, wsh⟩ := WW.out
        have wx : wrap64 (IntKind.u64.wrap (s : Int) / 2) = (h : Int) := by rw [wu, wsh, w64]
        clear wsh wu w64
        go_wp2_with fail
        try rw [wx]
        clear wx ws
        go_quiet_grown (first | (go_at_fn 42; refine Calls.grown_of (hcg _ _)))
        go_wp2
        go_roundw
        case rel => exact ⟨i, h, hmi, by omega, by omega, rfl, rfl, ⟨hQ.out.1, HQ.out⟩, hSi.out.grown nq osq⟩
        case measure => simp [intOf]; omega
      · have hr0 : 0 ≤ r := Int.not_lt.1 fun q => hlv (hrl.1 q)
        have hr2 : decide (r < 0) = false := decide_eq_false (by omega)
        have HQ := hid (show (∀ x ∈ X.take (h + 1 - a), x.2 ≤ y2) by
          intro x hx
          have := asc_front HX.out (k := h - a) (by have := HB.out; omega) x (by rw [show h - a + 1 = h + 1 - a by omega]; exact hx)
          rw [HXh.out] at this
          simp only at this
          omega)
        clear hrl hlv
        obtain ⟨ws, wu, w64, wsh⟩ := WW.out
        have wx : wrap64 (IntKind.u64.wrap (s : Int) / 2) = (h : Int) := by rw [wu, wsh, w64]
        clear wsh wu w64
        go_wp2_with fail
        try rw [wx]
        clear wx ws
        go_quiet_grown (first | (go_at_fn 42; refine Calls.grown_of (hcg _ _)))
        go_wp2
        go_roundw
        case rel => exact ⟨h + 1, j, by omega, by omega, hjb, by simp, rfl, ⟨HQ.out, hQ.out.2⟩, hSi.out.grown nq osq⟩
        case measure => simp [intOf]; omega
    · have hltI : ¬ (i : Int) < j := by omega
      have hQ' := hQ.out
      rw [show j = i by omega] at hQ'
      have HQ := hid hQ'
      have him : i ≤ m := by omega
      clear hQ' hQ
      go_wp2_with fail
      go_loopw [17] (fun vk wx => ∃ k : Nat, i ≤ k ∧ k ≤ m ∧ vk = .int .i64 k ∧ Hid (Sw w0 blk (A ++ (X.take (k - a) ++ (y1, y2) :: X.drop (k - a)) ++ R) wx)) (fun vk _ => (intOf vk).toNat - i)
      case atStart => exact ⟨m, him, Nat.le_refl _, rfl, hid (by have := hSi.out; rw [← HE.out.1] at this; have hb := HB.out; rw [show m - a = X.length by omega, List.take_length, List.drop_length]; simpa using this)⟩
      case round =>
        obtain ⟨k, hak, hke, rfl, hSk⟩ := hrel
        by_cases hkl : i < k
        · have hklI : (i : Int) < k := by omega
          obtain ⟨hb1, hb2, hb3⟩ := HB.out
          have hll : (A ++ (X.take (k - a) ++ (y1, y2) :: X.drop (k - a)) ++ R).length = N := by rw [← hLN.out, ← HE.out.1]; simp; omega
          have hH : Hk _ blk _ := hSk.out.holds hblk H0.out (by have := HL.out; simp at hll ⊢; omega)
          obtain ⟨q, hq⟩ : ∃ q, k - 1 = q := ⟨_, rfl⟩
          obtain ⟨c1, c2, f1, f2⟩ := hH.cells (i := k) (by omega)
          obtain ⟨d1, d2, g1, g2⟩ := hH.cells (i := q) (by omega)
          have hst := down_step A (y1, y2) X R (q - a) q (by omega) (by omega)
          rw [show q + 1 = k by omega, show q - a + 1 = k - a by omega] at hst
          have HSW := hid (fun u v hu hv => hSk.out.swapped H0.out hblk (i := k) (j := q) (by omega) (by omega) hst u v hu hv)
          obtain ⟨⟨u1, u2⟩, hu⟩ : ∃ u, (A ++ (X.take (k - a) ++ (y1, y2) :: X.drop (k - a)) ++ R)[k]! = u := ⟨_, rfl⟩
          obtain ⟨⟨v1, v2⟩, hv⟩ : ∃ v, (A ++ (X.take (k - a) ++ (y1, y2) :: X.drop (k - a)) ++ R)[q]! = v := ⟨_, rfl⟩
          rw [hu] at c1 c2
          rw [hv] at d1 d2
          have HX' := hid (HSW.out (u1, u2) (v1, v2) hu hv)
          have hkq : k ≠ q := by omega
          have wq : IntKind.i64.wrap ((k : Int) - 1) = (q : Int) := by rw [show (k : Int) - 1 = (q : Int) by omega]; exact IntWalk.i64_in _ ⟨by omega, by omega⟩
          have hkI : (k : Int) < N := by omega
          have hqI : (q : Int) < N := by omega
          have HQQ := hid hq
          simp only at c1 c2 d1 d2
          clear hu hv hst HSW hH hll hb1 hb2 hb3 hq
          go_wp2_with fail
          go_region
          go_wp2
          go_roundw
          case rel => exact ⟨q, by have := HQQ.out; omega, by have := HQQ.out; omega, by simp, HX'⟩
          case measure => simp [intOf]; have := HQQ.out; omega
        · have hklI : ¬ (i : Int) < k := by omega
          have hke' : k = i := by omega
          have HF := hid (show ∃ Z, St (X ++ [(y1, y2)]) Z ∧ Sw w0 blk (A ++ Z ++ R) wr by
            refine ⟨_, ?_, hSk.out⟩
            have h1 := HQ.out
            rw [← hke'] at h1
            have := st_back (y := (y1, y2)) (x1 := X.take (k - a)) (x2 := X.drop (k - a)) (by rw [List.take_append_drop]; exact HX.out) h1.1 h1.2
            rw [List.take_append_drop] at this
            exact this)
          clear hke'
          go_wp2
          refine bodyPost_ret (results_none rfl _ _ _) rfl ?_
          exact ⟨rfl, by simpa using HF.out⟩
end Go.Proofs.Ytoaceeddcnijoaa
