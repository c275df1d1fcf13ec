/- symMerge, where one of the parts is one alone. -/
import Derived.Test.YtoaceeddcnijoaaRot
namespace Go.Proofs.Ytoaceeddcnijoaa
open Go.RowKit Go.Shelf Go.Lib Go.Sort

theorem asc_front {Y : List Dl} (h : Asc Y) {k : Nat} (hk : k < Y.length) : ∀ y ∈ Y.take (k + 1), y.2 ≤ Y[k]!.2 := by
  intro y hy
  obtain ⟨i, hi, rfl⟩ := List.mem_iff_getElem.1 hy
  rw [List.length_take] at hi
  rw [List.getElem_take, getElem!_pos Y k hk]
  rcases Nat.lt_or_ge i k with q | q
  · exact List.pairwise_iff_getElem.1 h i k (by omega) hk q
  · have : i = k := by omega
    subst this
    exact Int.le_refl _
theorem asc_back {Y : List Dl} (h : Asc Y) {k : Nat} (hk : k < Y.length) : ∀ y ∈ Y.drop k, Y[k]!.2 ≤ y.2 := by
  intro y hy
  obtain ⟨i, hi, rfl⟩ := List.mem_iff_getElem.1 hy
  rw [List.length_drop] at hi
  rw [List.getElem_drop, getElem!_pos Y k hk]
  rcases Nat.eq_zero_or_pos i with q | q
  · subst q; exact Int.le_refl _
  · exact List.pairwise_iff_getElem.1 h k (k + i) hk (by omega) (by omega)
theorem cf_lt {x y : Dl} : cfD x y < 0 ↔ x.2 < y.2 := by
  have := congrFun (congrFun lt_cf x) y
  unfold ltOf ltD at this
  simpa using this
/-- Where the middle of two numbers is. -/
theorem mid_div {s h : Nat} (hs : s / 2 = h) : (s : Int) / 2 = (h : Int) := by omega
/-- One that goes up, exchanged with the next one. -/
theorem up_step (A : List Dl) (x : Dl) (Y R : List Dl) (t k : Nat) (ht : t < Y.length) (hk : k = A.length + t) :
    swp (A ++ (Y.take t ++ x :: Y.drop t) ++ R).toArray k (k + 1) = (A ++ (Y.take (t + 1) ++ x :: Y.drop (t + 1)) ++ R).toArray := by
  have e1 : A ++ (Y.take t ++ x :: Y.drop t) ++ R = (A ++ Y.take t) ++ x :: ([] ++ Y[t]! :: (Y.drop (t + 1) ++ R)) := by rw [drop_get ht]; simp
  have e2 : A ++ (Y.take (t + 1) ++ x :: Y.drop (t + 1)) ++ R = (A ++ Y.take t) ++ Y[t]! :: ([] ++ x :: (Y.drop (t + 1) ++ R)) := by rw [take_get ht]; simp
  rw [e1, e2]
  exact swp_up _ _ _ _ _ k (k + 1) (by simp; omega) (by simp; omega)
/-- One that goes down, exchanged with the one ahead. -/
theorem down_step (A : List Dl) (y : Dl) (X R : List Dl) (t k : Nat) (ht : t < X.length) (hk : k = A.length + t) :
    swp (A ++ (X.take (t + 1) ++ y :: X.drop (t + 1)) ++ R).toArray (k + 1) k = (A ++ (X.take t ++ y :: X.drop t) ++ R).toArray := by
  have e1 : A ++ (X.take (t + 1) ++ y :: X.drop (t + 1)) ++ R = (A ++ X.take t) ++ X[t]! :: ([] ++ y :: (X.drop (t + 1) ++ R)) := by rw [take_get ht]; simp
  have e2 : A ++ (X.take t ++ y :: X.drop t) ++ R = (A ++ X.take t) ++ y :: ([] ++ X[t]! :: (X.drop (t + 1) ++ R)) := by rw [drop_get ht]; simp
  rw [e1, e2]
  exact swp_down _ _ _ _ _ k (k + 1) (by simp; omega) (by simp; omega)
theorem cells_grown {wr : World} {blk : Nat} {L : List Dl} (h : Hk wr blk L) (hb : blk < wr.heap.size) {i : Nat} (hi : i < L.length) {y1 y2 : Int} (e : L[i]! = (y1, y2)) : (∀ n os, (grow (wr.drewN n) os).cell? ⟨blk, i * 2, none⟩ = some (.int .i64 y1)) ∧ ∀ n os, (grow (wr.drewN n) os).cell? ⟨blk, i * 2 + 1, none⟩ = some (.int .i64 y2) := by
  obtain ⟨c1, c2, -, -⟩ := h.cells hi
  rw [e] at c1 c2
  exact ⟨fun n os => cell_grown (by exact hb) c1 n os, fun n os => cell_grown (by exact hb) c2 n os⟩
theorem calls_grown (x1 x2 y1 y2 : Int) (r : Int) (hr : cfD (x1, x2) (y1, y2) = r) (wr : World) : ∀ n os, Calls Try.prog 42 #[.agg #[.int .i64 x1, .int .i64 x2], .agg #[.int .i64 y1, .int .i64 y2]] (grow (wr.drewN n) os) fun e w' => e = .returned (.int .i64 r) ∧ ∃ q os', w' = grow ((grow (wr.drewN n) os).drewN q) os' := fun n os => by
  rw [← hr]; exact closure42 (x1, x2) (y1, y2) _
theorem get_mid (A : List Dl) (B : List Dl) (i : Nat) (h : A.length ≤ i) : (A ++ B)[i]! = B[i - A.length]! := by
  rw [List.getElem!_eq_getElem?_getD, List.getElem!_eq_getElem?_getD, List.getElem?_append_right h]

set_option maxRecDepth 100000 in
set_option maxHeartbeats 4000000 in
theorem sym_one (w0 : World) (blk cap : Nat) (A : List Dl) (x : Dl) (Y R : List Dl) (L0 : List Dl) (W : World) (a m b N : Nat) (hS : Sw w0 blk (A ++ x :: (Y ++ R)) W) (h0 : Hk w0 blk L0) (hl : L0.length = N) (hN : N = (A ++ x :: (Y ++ R)).length) (hblk : blk < w0.heap.size) (ha : a = A.length) (hm : m = a + 1) (hb : b = a + 1 + Y.length) (hY : Asc Y) (hsz : N < 1000000) :
    Calls Try.prog 48 #[.slice (some ⟨blk, 0, none⟩) N cap, .int .i64 a, .int .i64 m, .int .i64 b, cmpV] W fun e w' => e = .returned (.tuple #[]) ∧ ∃ Z, St ([x] ++ Y) Z ∧ Sw w0 blk (A ++ Z ++ R) w' := by
  obtain ⟨x1, x2⟩ := x
  obtain ⟨L, hL⟩ : ∃ L, A ++ (x1, x2) :: (Y ++ R) = L := ⟨_, rfl⟩
  rw [hL] at hS hN
  have hbN : b ≤ N := by rw [hN, ← hL]; simp; omega
  have hLx : L[a]! = (x1, x2) := by rw [← hL, ha, get_at]
  have hLy : ∀ t, t < Y.length → L[m + t]! = Y[t]! := fun t ht => by
    rw [← hL, get_mid _ _ _ (by omega), show m + t - A.length = t + 1 by omega]
    rw [List.getElem!_eq_getElem?_getD, List.getElem!_eq_getElem?_getD, List.getElem?_cons_succ, List.getElem?_append_left ht]
  have w1 : IntKind.i64.wrap ((m : Int) - a) = 1 := by rw [show (m : Int) - a = 1 by omega]; rfl
  have HH := hid (show ∀ wr, Sw w0 blk L wr → Hk wr blk L from fun wr h => h.holds hblk h0 (by simp; omega))
  have HE := hid (And.intro hL (And.intro hLx hLy))
  have HB := hid (And.intro ha (And.intro hm hb))
  have HS := hid hS
  have H0 := hid h0
  have HN := hid hN
  have HL := hid hl
  have HY := hid hY
  have hmb : m ≤ b ∧ a < N := by omega
  have hmx : Try.prog.follows .mixedOrders = true := by kernel_rfl
  have eg := enters42
  have hLN := hid (show L.length = N by omega)
  clear hS h0 hl hN ha hm hb hY hL hLx hLy
  go_enter Try.func48, Try.ntmps48
  go_wp2_with fail
  go_loopw [10, 11] (fun vi vj wr => ∃ i j : Nat, m ≤ i ∧ i ≤ j ∧ j ≤ b ∧ vi = .int .i64 i ∧ vj = .int .i64 j ∧ Hid ((∀ y ∈ Y.take (i - m), y.2 < x2) ∧ (∀ y ∈ Y.drop (j - m), x2 ≤ y.2)) ∧ Hid (Sw w0 blk L wr)) (fun vi vj _ => (intOf vj).toNat - (intOf vi).toNat)
  case atStart => exact ⟨m, b, Nat.le_refl _, hmb.1, Nat.le_refl _, rfl, rfl, ⟨by simp, by have := HB.out; rw [List.drop_eq_nil_of_le (by omega)]; simp⟩, HS⟩
  case round =>
    obtain ⟨i, j, hmi, hij, hjb, rfl, rfl, hQ, hSi⟩ := hrel
    by_cases hlt : i < j
    · have hltI : (i : Int) < j := by omega
      obtain ⟨s, hs⟩ : ∃ s, i + j = s := ⟨_, rfl⟩
      obtain ⟨h, hh⟩ : ∃ h, s / 2 = h := ⟨_, rfl⟩
      have hr : i ≤ h ∧ h < j := by omega
      have hhN : h < N := by omega
      have hhI : (h : Int) < N := by omega
      have haI : (a : Int) < N := by omega
      have ws : IntKind.i64.wrap ((i : Int) + j) = (s : Int) := by rw [show (i : Int) + j = (s : Int) by omega]; exact IntWalk.i64_in _ ⟨by omega, by omega⟩
      have wu : IntKind.u64.wrap (s : Int) = (s : Int) := IntWalk.u64_in _ ⟨by omega, by omega⟩
      have w64 : wrap64 (h : Int) = (h : Int) := IntWalk.wrap64_in _ ⟨by omega, by omega⟩
      have wsh := mid_div hh
      clear hs hh
      have WW := hid (And.intro ws (And.intro wu (And.intro w64 wsh)))
      clear ws wu w64 wsh
      have hhb := hSi.out.lt hblk
      obtain ⟨y1, y2, hy⟩ : ∃ y1 y2, L[h]! = (y1, y2) := ⟨_, _, rfl⟩
      obtain ⟨c1, c2⟩ := cells_grown (HH.out _ hSi.out) hhb (show h < L.length by have := hLN.out; omega) hy
      obtain ⟨d1, d2⟩ := cells_grown (HH.out _ hSi.out) hhb (show a < L.length by have := hLN.out; omega) HE.out.2.1
      have HYh := hid (show Y[h - m]! = (y1, y2) by have := HE.out.2.2 (h - m) (by have := HB.out; omega); rw [← this, show m + (h - m) = h by omega]; exact hy)
      obtain ⟨r, hre⟩ : ∃ r, cfD (y1, y2) (x1, x2) = r := ⟨_, rfl⟩
      have hcg := calls_grown y1 y2 x1 x2 r hre wr
      have hrl := cf_lt (x := (y1, y2)) (y := (x1, x2))
      rw [hre] at hrl
      simp only at hrl
      clear hy hre
      by_cases hlv : y2 < x2
      · have hr0 : r < 0 := hrl.2 hlv
        have HQ := hid (show (∀ y ∈ Y.take (h + 1 - m), y.2 < x2) by
          intro y hy
          have := asc_front HY.out (k := h - m) (by have := HB.out; omega) y (by rw [show h - m + 1 = h + 1 - m by omega]; exact hy)
          rw [HYh.out] at this
          simp only at this
          omega)
        clear hrl hlv
        obtain ⟨ws, wu, w64, wsh⟩ := WW.out
        have wx : wrap64 (IntKind.u64.wrap (s : Int) / 2) = (h : Int) := by rw [wu, wsh, w64]
        clear wsh wu w64
        go_wp2_with fail
        try rw [wx]
        clear wx ws
        go_quiet_grown (first | (go_at_fn 42; refine Calls.grown_of (hcg _ _)))
        go_wp2
        go_roundw
        case rel => exact ⟨h + 1, j, by omega, by omega, hjb, by simp, rfl, ⟨HQ.out, hQ.out.2⟩, hSi.out.grown nq osq⟩
        case measure => simp [intOf]; omega
      · have hr0 : ¬ r < 0 := fun q => hlv (hrl.1 q)
        have HQ := hid (show (∀ y ∈ Y.drop (h - m), x2 ≤ y.2) by
          intro y hy
          have := asc_back HY.out (k := h - m) (by have := HB.out; omega) y hy
          rw [HYh.out] at this
          simp only at this
          omega)
        clear hrl hlv
        obtain ⟨ws, wu, w64, wsh⟩ := WW.out
        have wx : wrap64 (IntKind.u64.wrap (s : Int) / 2) = (h : Int) := by rw [wu, wsh, w64]
        clear wsh wu w64
        go_wp2_with fail
        try rw [wx]
        clear wx ws
        go_quiet_grown (first | (go_at_fn 42; refine Calls.grown_of (hcg _ _)))
        go_wp2
        go_roundw
        case rel => exact ⟨i, h, hmi, by omega, by omega, rfl, rfl, ⟨hQ.out.1, HQ.out⟩, hSi.out.grown nq osq⟩
        case measure => simp [intOf]; omega
    · have hltI : ¬ (i : Int) < j := by omega
      have hQ' := hQ.out
      rw [show j = i by omega] at hQ'
      have HQ := hid hQ'
      obtain ⟨e, he⟩ : ∃ e, i - 1 = e := ⟨_, rfl⟩
      have we : IntKind.i64.wrap ((i : Int) - 1) = (e : Int) := by rw [show (i : Int) - 1 = (e : Int) by have := HB.out; omega]; exact IntWalk.i64_in _ ⟨by omega, by omega⟩
      have HEE := hid (show i = e + 1 ∧ a ≤ e ∧ e - a = i - m ∧ e + 1 ≤ N by have := HB.out; omega)
      clear he hQ' hQ
      go_wp2_with fail
      go_loopw [13] (fun vk wx => ∃ k : Nat, a ≤ k ∧ k ≤ e ∧ vk = .int .i64 k ∧ Hid (Sw w0 blk (A ++ (Y.take (k - a) ++ (x1, x2) :: Y.drop (k - a)) ++ R) wx)) (fun vk _ => e - (intOf vk).toNat)
      case atStart => exact ⟨a, Nat.le_refl _, HEE.out.2.1, rfl, hid (by rw [Nat.sub_self]; have := hSi.out; rw [← HE.out.1] at this; simpa using this)⟩
      case round =>
        obtain ⟨k, hak, hke, rfl, hSk⟩ := hrel
        by_cases hkl : k < e
        · have hklI : (k : Int) < e := by omega
          obtain ⟨he1, he2, he3, he4⟩ := HEE.out
          obtain ⟨hb1, hb2, hb3⟩ := HB.out
          have hll : (A ++ (Y.take (k - a) ++ (x1, x2) :: Y.drop (k - a)) ++ R).length = N := by rw [← hLN.out, ← HE.out.1]; simp; omega
          have hH : Hk _ blk _ := hSk.out.holds hblk H0.out (by have := HL.out; simp at hll ⊢; omega)
          obtain ⟨q, hq⟩ : ∃ q, k + 1 = q := ⟨_, rfl⟩
          obtain ⟨c1, c2, f1, f2⟩ := hH.cells (i := k) (by omega)
          obtain ⟨d1, d2, g1, g2⟩ := hH.cells (i := q) (by omega)
          have hst := up_step A (x1, x2) Y R (k - a) k (by omega) (by omega)
          rw [hq, show k - a + 1 = q - a by omega] at hst
          have HSW := hid (fun u v hu hv => hSk.out.swapped H0.out hblk (i := k) (j := q) (by omega) (by omega) hst u v hu hv)
          obtain ⟨⟨u1, u2⟩, hu⟩ : ∃ u, (A ++ (Y.take (k - a) ++ (x1, x2) :: Y.drop (k - a)) ++ R)[k]! = u := ⟨_, rfl⟩
          obtain ⟨⟨v1, v2⟩, hv⟩ : ∃ v, (A ++ (Y.take (k - a) ++ (x1, x2) :: Y.drop (k - a)) ++ R)[q]! = v := ⟨_, rfl⟩
          rw [hu] at c1 c2
          rw [hv] at d1 d2
          have HX := hid (HSW.out (u1, u2) (v1, v2) hu hv)
          have hkq : k ≠ q := by omega
          have wq : IntKind.i64.wrap ((k : Int) + 1) = (q : Int) := by rw [← hq]; exact IntWalk.i64_in _ ⟨by omega, by omega⟩
          have hkI : (k : Int) < N := by omega
          have hqI : (q : Int) < N := by omega
          have HQQ := hid hq
          simp only at c1 c2 d1 d2
          clear hu hv hst HSW hH hll he1 he2 he3 he4 hb1 hb2 hb3 hq
          go_wp2_with fail
          go_region
          go_wp2
          go_roundw
          case rel => exact ⟨q, by have := HQQ.out; omega, by have := HQQ.out; omega, by simp, HX⟩
          case measure => simp [intOf]; have := HQQ.out; omega
        · have hklI : ¬ (k : Int) < e := by omega
          have hke' : k = e := by omega
          have HF := hid (show ∃ Z, St ([(x1, x2)] ++ Y) Z ∧ Sw w0 blk (A ++ Z ++ R) wr by
            refine ⟨_, ?_, hSk.out⟩
            have h1 := HQ.out
            rw [← HEE.out.2.2.1, ← hke'] at h1
            have := st_front (x := (x1, x2)) (y1 := Y.take (k - a)) (y2 := Y.drop (k - a)) (by rw [List.take_append_drop]; exact HY.out) h1.1 h1.2
            rw [List.take_append_drop] at this
            exact this)
          clear hke'
          go_wp2
          refine bodyPost_ret (results_none rfl _ _ _) rfl ?_
          exact ⟨rfl, by simpa using HF.out⟩
end Go.Proofs.Ytoaceeddcnijoaa
