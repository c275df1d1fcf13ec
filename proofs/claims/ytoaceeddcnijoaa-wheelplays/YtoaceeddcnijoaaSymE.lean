/- symMerge, where the second part is as long, or longer. -/
import Derived.Test.YtoaceeddcnijoaaSymC
namespace Go.Proofs.Ytoaceeddcnijoaa
open Go.RowKit Go.Shelf Go.Lib Go.Sort

set_option maxRecDepth 100000 in
set_option maxHeartbeats 16000000 in
theorem sym_early (w0 : World) (blk cap N K : Nat) (L0 : List Dl) (h0 : Hk w0 blk L0) (hl : L0.length = N) (hblk : blk < w0.heap.size) (hsz : N < 1000000) (ih : SymOk w0 blk cap N K) (A X Y R : List Dl) (W : World) (a m b : Nat) (hK : X.length + Y.length ≤ K + 1) (hS : Sw w0 blk (A ++ (X ++ (Y ++ R))) W) (hN : N = (A ++ (X ++ (Y ++ R))).length) (ha : a = A.length) (hm : m = a + X.length) (hb : b = m + Y.length) (hx : 2 ≤ X.length) (hy : 2 ≤ Y.length) (hX : Asc X) (hY : Asc Y) (hcase : ¬ (a + b) / 2 < m) :
    Calls Try.prog 48 #[.slice (some ⟨blk, 0, none⟩) N cap, .int .i64 a, .int .i64 m, .int .i64 b, cmpV] W fun e w' => e = .returned (.tuple #[]) ∧ ∃ Z, St (X ++ Y) Z ∧ Sw w0 blk (A ++ (Z ++ R)) w' := by
  obtain ⟨L, hL⟩ : ∃ L, A ++ (X ++ (Y ++ R)) = L := ⟨_, rfl⟩
  rw [hL] at hS hN
  have hbN : b ≤ N := by rw [hN, ← hL]; simp; omega
  obtain ⟨d1, hd1⟩ : ∃ d : Nat, X.length = d := ⟨_, rfl⟩
  obtain ⟨d2, hd2⟩ : ∃ d : Nat, Y.length = d := ⟨_, rfl⟩
  obtain ⟨ab, hab⟩ : ∃ s, a + b = s := ⟨_, rfl⟩
  obtain ⟨mid, hmid⟩ : ∃ h, ab / 2 = h := ⟨_, rfl⟩
  obtain ⟨nn, hnn⟩ : ∃ h, mid + m = h := ⟨_, rfl⟩
  obtain ⟨p, hp⟩ : ∃ h, nn - 1 = h := ⟨_, rfl⟩
  have hs : a < mid ∧ mid < b ∧ mid + m = nn ∧ nn < 2 * N ∧ 0 < nn ∧ 2 ≤ d1 ∧ 2 ≤ d2 ∧ a + d1 = m ∧ m + d2 = b := by omega
  have WA := hid (show (((m : Int) - a) == 1) = false ∧ (((b : Int) - m) == 1) = false ∧ (a : Int) ≤ 1000000 ∧ (m : Int) ≤ 1000000 ∧ (b : Int) ≤ 1000000 ∧ (ab : Int) ≤ 2000000 ∧ (a : Int) + b = ab
    from ⟨by rw [beq_eq_false_iff_ne]; omega, by rw [beq_eq_false_iff_ne]; omega, by omega, by omega, by omega, by omega, by omega⟩)
  have WB := hid (show (ab : Int) / 2 = (mid : Int) ∧ (mid : Int) + m = (nn : Int) ∧ (nn : Int) - 1 = (p : Int) by omega)
  have HH := hid (show ∀ wr, Sw w0 blk L wr → Hk wr blk L from fun wr h => h.holds hblk h0 (by simp; omega))
  have HE := hid hL
  have HB := hid (And.intro ha (And.intro hm hb))
  have HM := hid (show mid = (a + b) / 2 ∧ p = nn - 1 by omega)
  have HS := hid hS
  have H0 := hid h0
  have HN := hid hN
  have HL := hid hl
  have HX := hid hX
  have HY := hid hY
  have IH := hid ih
  have HK := hid hK
  have HD := hid hs
  have hmx : Try.prog.follows .mixedOrders = true := by kernel_rfl
  have eg := enters42
  have hLN := hid (show L.length = N by omega)
  obtain ⟨hs1, hs2, -, hs4, -⟩ := hs
  clear hS h0 hl hN ha hm hb hX hY hL hd1 hd2 hx hy hab hmid hnn hp ih hK
  go_enter Try.func48, Try.ntmps48
  have hmm : ¬ mid < m := by have := HM.out; omega
  clear hcase
  obtain ⟨s0, hs0⟩ : ∃ s0, a = s0 := ⟨_, rfl⟩
  obtain ⟨r0, hr0⟩ : ∃ r0, m = r0 := ⟨_, rfl⟩
  have BD := hid (show (a ≤ s0 ∧ s0 ≤ r0 ∧ r0 ≤ m ∧ nn - s0 ≤ b ∧ m ≤ nn - r0 ∧ (s0 = a ∨ nn - s0 = b) ∧ (r0 = m ∨ nn - r0 = m) ∧ r0 ≤ nn ∧ r0 ≤ mid) by have hD := HD.out; have hM := HM.out; omega)
  have W6 := hid (show (a : Int) = (s0 : Int) by omega)
  have hmm2 : ¬ (ab : Int) / 2 < m := by have := WB.out; omega
  have MR := hid (show (m : Int) = (r0 : Int) by omega)
  clear hs0 hr0 hmm
  obtain ⟨e1, e2, b1, b2, b3, b4, b5⟩ := WA.out
  go_wp2_with fail
  obtain ⟨q1, q2, q3⟩ := WB.out
  rw [q1, q2, q3]
  clear e1 e2 b1 b2 b3 b4 b5 q1 q2 q3 hmm2
  go_loopw [20, 21] (fun vi vj wr => ∃ st r : Nat, s0 ≤ st ∧ st ≤ r ∧ r ≤ r0 ∧ vi = .int .i64 st ∧ vj = .int .i64 r ∧ Hid (Cutp L nn s0 r0 st r) ∧ Hid (Sw w0 blk L wr)) (fun vi vj _ => (intOf vj).toNat - (intOf vi).toNat)
  case atStart => exact ⟨s0, r0, Nat.le_refl _, BD.out.2.1, Nat.le_refl _, by first | rfl | rw [W6.out], by rw [MR.out], ⟨.inl rfl, .inl rfl⟩, HS⟩
  case round =>
    obtain ⟨st, r, h1, h2, h3, rfl, rfl, hC, hSi⟩ := hrel
    by_cases hlt : st < r
    · have hltI : (st : Int) < r := by omega
      have bd := BD.out
      have hd := HD.out
      have hM := HM.out
      have hLn := hLN.out
      obtain ⟨s, hs⟩ : ∃ s, st + r = s := ⟨_, rfl⟩
      obtain ⟨c, hc⟩ : ∃ c, s / 2 = c := ⟨_, rfl⟩
      obtain ⟨q, hq⟩ : ∃ q, p - c = q := ⟨_, rfl⟩
      have hr : st ≤ c ∧ c < r ∧ c < N ∧ q < N ∧ c ≤ p := by omega
      have hcI : (c : Int) < N := by omega
      have hqI : (q : Int) < N := by omega
      have hb1 : (s : Int) ≤ 2000000 := by omega
      have hb2 : (p : Int) ≤ 2000000 := by omega
      have hb3 : (st : Int) + r = (s : Int) := by omega
      have HW := hid (show IntKind.i64.wrap ((p : Int) - c) = (q : Int) from wsub (by omega) (by omega))
      have hb5 : (st : Int) ≤ 1000000 := by omega
      have hb6 : (r : Int) ≤ 1000000 := by omega
      have HSC := hid (show (s : Int) / 2 = (c : Int) by omega)
      have hpc := hid (show p - c = nn - 1 - c by omega)
      have HQE := hid hq
      clear hs hc hq bd hd hM
      have hhb := hSi.out.lt hblk
      obtain ⟨x1, x2, hx⟩ : ∃ x1 x2, L[c]! = (x1, x2) := ⟨L[c]!.1, L[c]!.2, rfl⟩
      obtain ⟨y1, y2, hy⟩ : ∃ y1 y2, L[q]! = (y1, y2) := ⟨L[q]!.1, L[q]!.2, rfl⟩
      obtain ⟨c1, c2⟩ := cells_grown (HH.out _ hSi.out) hhb (show q < L.length by omega) hy
      obtain ⟨d1', d2'⟩ := cells_grown (HH.out _ hSi.out) hhb (show c < L.length by omega) hx
      obtain ⟨t, hte⟩ : ∃ t, cfD (y1, y2) (x1, x2) = t := ⟨_, rfl⟩
      have hcg := calls_grown y1 y2 x1 x2 t hte wr
      have hrl := cf_lt (x := (y1, y2)) (y := (x1, x2))
      rw [hte] at hrl
      simp only at hrl
      by_cases hlv : y2 < x2
      · have ht0 : t < 0 := hrl.2 hlv
        have HQ := hid (show Cutp L nn s0 r0 st c from ⟨hC.out.lo, .inr (by rw [← hpc.out, HQE.out, hx, hy]; exact hlv)⟩)
        clear hrl hlv hx hy hte hLn
        go_wp2_with fail
        rw [HSC.out]
        have wq := HW.out
        go_quiet_grown (first | (go_at_fn 42; refine Calls.grown_of (hcg _ _)))
        clear hb1 hb2 hb3 hb5 hb6 wq
        go_wp2
        go_roundw
        case rel => exact ⟨st, c, h1, by omega, by omega, rfl, rfl, HQ, hSi.out.grown nq osq⟩
        case measure => simp [intOf]; omega
      · have ht0 : 0 ≤ t := Int.not_lt.1 fun q => hlv (hrl.1 q)
        have ht1 : decide (t < 0) = false := decide_eq_false (by omega)
        have HQ := hid (show Cutp L nn s0 r0 (c + 1) r from ⟨.inr (by rw [Nat.add_sub_cancel, ← hpc.out, HQE.out, hx, hy]; exact hlv), hC.out.hi⟩)
        clear hrl hlv hx hy hte hLn
        go_wp2_with fail
        rw [HSC.out]
        have wq := HW.out
        go_quiet_grown (first | (go_at_fn 42; refine Calls.grown_of (hcg _ _)))
        clear hb1 hb2 hb3 hb5 hb6 wq
        go_wp2
        go_roundw
        case rel => exact ⟨c + 1, r, by omega, by omega, h3, by simp, rfl, HQ, hSi.out.grown nq osq⟩
        case measure => simp [intOf]; omega
    · have hltI : ¬ (st : Int) < r := by omega
      have hC' := hC.out
      rw [show r = st by omega] at hC'
      have bd := BD.out
      have hd := HD.out
      have hM := HM.out
      obtain ⟨en, hen⟩ : ∃ en, nn - st = en := ⟨_, rfl⟩
      have PT0 := cut_parts HE.out HB.out.1 HB.out.2.1 HB.out.2.2 HX.out HY.out hC' bd.1 h1 (by omega) bd.2.2.1 bd.2.2.2.1 bd.2.2.2.2.1 bd.2.2.2.2.2.1 bd.2.2.2.2.2.2.1 hen bd.2.2.2.2.2.2.2.1
      have e1 : X.take (st - a) ++ X.drop (st - a) = X := List.take_append_drop _ _
      have e2 : Y.take (en - m) ++ Y.drop (en - m) = Y := List.take_append_drop _ _
      obtain ⟨X1, hX1⟩ : ∃ z, X.take (st - a) = z := ⟨_, rfl⟩
      obtain ⟨X2, hX2⟩ : ∃ z, X.drop (st - a) = z := ⟨_, rfl⟩
      obtain ⟨Y1, hY1⟩ : ∃ z, Y.take (en - m) = z := ⟨_, rfl⟩
      obtain ⟨Y2, hY2⟩ : ∃ z, Y.drop (en - m) = z := ⟨_, rfl⟩
      have hB := HB.out
      have F := hid (show X1.length = st - a ∧ X2.length = m - st ∧ Y1.length = en - m ∧ Y2.length = b - en ∧ a ≤ st ∧ st ≤ m ∧ m ≤ en ∧ en ≤ b ∧ st ≤ mid ∧ mid ≤ en ∧ mid - st = en - m ∧ en - mid = m - st ∧ mid < b ∧ a < mid ∧ a = A.length ∧ m = a + X.length ∧ b = m + Y.length by
        rw [← hX1, ← hX2, ← hY1, ← hY2, List.length_take, List.length_drop, List.length_take, List.length_drop]
        omega)
      have enI := hid (show (nn : Int) - st = (en : Int) by omega)
      have BN := hid (show (nn : Int) ≤ 2000000 by omega)
      have BS := hid (show (st : Int) ≤ 1000000 by omega)
      rw [hX1, hX2] at e1
      rw [hY1, hY2] at e2
      rw [hX1, hX2, hY1, hY2] at PT0
      have PT := hid PT0
      have EX := hid (And.intro e1 e2)
      have AX := hid (show Asc X1 ∧ Asc X2 ∧ Asc Y1 ∧ Asc Y2 from ⟨Asc.left (b := X2) (by rw [e1]; exact HX.out), Asc.right (a := X1) (by rw [e1]; exact HX.out), Asc.left (b := Y2) (by rw [e2]; exact HY.out), Asc.right (a := Y1) (by rw [e2]; exact HY.out)⟩)
      have S1 := hid (show Sw w0 blk (A ++ (X1 ++ (X2 ++ (Y1 ++ (Y2 ++ R))))) wr by have := hSi.out; rw [← HE.out, ← e1, ← e2] at this; simpa using this)
      have HT := hid (show L.length = A.length + (X.length + (Y.length + R.length)) by rw [← HE.out]; simp)
      clear hC' bd hd hM hen PT0 e1 e2 hX1 hX2 hY1 hY2 hB hC hSi
      by_cases hP : st < m
      · by_cases hQ : st < mid
        · by_cases hU : a < st
          · by_cases hV : en < b
            · have hPI : (st : Int) < m := by omega
              have hQI : (st : Int) < mid := by omega
              have hUI : (a : Int) < st := by omega
              have hVI : (en : Int) < b := by omega
              have hP2 : (mid : Int) < en := by have := F.out; omega
              have hQ2 : (m : Int) < en := by have := F.out; omega
              have EI := enI.out
              clear hP hQ hU hV
              have b1 : (nn : Int) ≤ 2000000 := BN.out
              have b2 : (st : Int) ≤ 1000000 := BS.out
              go_wp2_with fail
              refine (rotate_any w0 blk cap (A ++ X1) X2 Y1 (Y2 ++ R) L0 _ st m en N (by simpa using S1.out) H0.out HL.out (by have := F.out; have := HN.out; have := HT.out; simp; omega) hblk (by have := F.out; simp; omega) (by have := F.out; simp; omega) (by have := F.out; simp; omega) (by have := F.out; omega) (by have := F.out; omega) hsz).mono ?_
              rintro e w2 ⟨rfl, h2⟩
              have S2 := hid (show Sw w0 blk (A ++ (X1 ++ (Y1 ++ (X2 ++ (Y2 ++ R))))) w2 by simpa using h2)
              clear h2
              go_wp2_with fail
              refine (IH.out A X1 Y1 (X2 ++ (Y2 ++ R)) _ a st mid (by have := F.out; have := HK.out; omega) S2.out (by have := F.out; have := HN.out; have := HT.out; simp; omega) HB.out.1 (by have := F.out; omega) (by have := F.out; omega) (by have := F.out; omega) (by have := F.out; omega) AX.out.1 AX.out.2.2.1).mono ?_
              rintro e w3 ⟨rfl, h3⟩
              have S3 := hid h3
              clear h3
              obtain ⟨Z1, hZ1, hS3⟩ := S3.out
              have SZ := hid hZ1
              have S4 := hid hS3
              have LZ := hid (show Z1.length = X1.length + Y1.length by rw [hZ1.length]; simp)
              clear hZ1 hS3 S3
              go_wp2_with fail
              refine (IH.out (A ++ Z1) X2 Y2 R _ mid en b (by have := F.out; have := HK.out; omega) (by simpa using S4.out) (by have := F.out; have := HN.out; have := HT.out; have := LZ.out; simp; omega) (by have := F.out; have := LZ.out; have := HB.out; simp; omega) (by have := F.out; omega) (by have := F.out; omega) (by have := F.out; omega) (by have := F.out; omega) AX.out.2.1 AX.out.2.2.2).mono ?_
              rintro e w4 ⟨rfl, h4⟩
              have S5 := hid h4
              clear h4
              obtain ⟨Z2, hZ2, hS5⟩ := S5.out
              have FIN := hid (show ∃ Z, St (X ++ Y) Z ∧ Sw w0 blk (A ++ (Z ++ R)) w4 from ⟨Z1 ++ Z2, by rw [← EX.out.1, ← EX.out.2]; exact st_halves (by rw [EX.out.1]; exact HX.out) (by rw [EX.out.2]; exact HY.out) SZ.out hZ2 PT.out.1 PT.out.2, by simpa using hS5⟩)
              clear hZ2 hS5 S5
              go_wp2
              all_goals (
                refine bodyPost_end (results_none rfl _ _ _) rfl ?_
                exact ⟨rfl, FIN.out⟩)
            · have hPI : (st : Int) < m := by omega
              have hQI : (st : Int) < mid := by omega
              have hUI : (a : Int) < st := by omega
              have hVI : ¬ (en : Int) < b := by omega
              have hP2 : (mid : Int) < en := by have := F.out; omega
              have hQ2 : (m : Int) < en := by have := F.out; omega
              have EI := enI.out
              clear hP hQ hU hV
              have b1 : (nn : Int) ≤ 2000000 := BN.out
              have b2 : (st : Int) ≤ 1000000 := BS.out
              go_wp2_with fail
              refine (rotate_any w0 blk cap (A ++ X1) X2 Y1 (Y2 ++ R) L0 _ st m en N (by simpa using S1.out) H0.out HL.out (by have := F.out; have := HN.out; have := HT.out; simp; omega) hblk (by have := F.out; simp; omega) (by have := F.out; simp; omega) (by have := F.out; simp; omega) (by have := F.out; omega) (by have := F.out; omega) hsz).mono ?_
              rintro e w2 ⟨rfl, h2⟩
              have S2 := hid (show Sw w0 blk (A ++ (X1 ++ (Y1 ++ (X2 ++ (Y2 ++ R))))) w2 by simpa using h2)
              clear h2
              go_wp2_with fail
              refine (IH.out A X1 Y1 (X2 ++ (Y2 ++ R)) _ a st mid (by have := F.out; have := HK.out; omega) S2.out (by have := F.out; have := HN.out; have := HT.out; simp; omega) HB.out.1 (by have := F.out; omega) (by have := F.out; omega) (by have := F.out; omega) (by have := F.out; omega) AX.out.1 AX.out.2.2.1).mono ?_
              rintro e w3 ⟨rfl, h3⟩
              have S3 := hid h3
              clear h3
              obtain ⟨Z1, hZ1, hS3⟩ := S3.out
              have SZ := hid hZ1
              have S4 := hid hS3
              have LZ := hid (show Z1.length = X1.length + Y1.length by rw [hZ1.length]; simp)
              clear hZ1 hS3 S3
              have FIN := hid (show ∃ Z, St (X ++ Y) Z ∧ Sw w0 blk (A ++ (Z ++ R)) w3 by
                have e0 : Y2 = [] := List.eq_nil_of_length_eq_zero (by have := F.out; omega)
                have hz2 : St (X2 ++ Y2) (X2 ++ Y2) := by rw [e0]; simpa using AX.out.2.1.st
                exact ⟨Z1 ++ (X2 ++ Y2), by rw [← EX.out.1, ← EX.out.2]; exact st_halves (by rw [EX.out.1]; exact HX.out) (by rw [EX.out.2]; exact HY.out) SZ.out hz2 PT.out.1 PT.out.2, by simpa using S4.out⟩)
              go_wp2
              all_goals (
                refine bodyPost_end (results_none rfl _ _ _) rfl ?_
                exact ⟨rfl, FIN.out⟩)
          · by_cases hV : en < b
            · have hPI : (st : Int) < m := by omega
              have hQI : (st : Int) < mid := by omega
              have hUI : ¬ (a : Int) < st := by omega
              have hVI : (en : Int) < b := by omega
              have hP2 : (mid : Int) < en := by have := F.out; omega
              have hQ2 : (m : Int) < en := by have := F.out; omega
              have EI := enI.out
              clear hP hQ hU hV
              have b1 : (nn : Int) ≤ 2000000 := BN.out
              have b2 : (st : Int) ≤ 1000000 := BS.out
              go_wp2_with fail
              refine (rotate_any w0 blk cap (A ++ X1) X2 Y1 (Y2 ++ R) L0 _ st m en N (by simpa using S1.out) H0.out HL.out (by have := F.out; have := HN.out; have := HT.out; simp; omega) hblk (by have := F.out; simp; omega) (by have := F.out; simp; omega) (by have := F.out; simp; omega) (by have := F.out; omega) (by have := F.out; omega) hsz).mono ?_
              rintro e w2 ⟨rfl, h2⟩
              have S2 := hid (show Sw w0 blk (A ++ (X1 ++ (Y1 ++ (X2 ++ (Y2 ++ R))))) w2 by simpa using h2)
              clear h2
              have S3 := hid (show ∃ Z, St (X1 ++ Y1) Z ∧ Sw w0 blk (A ++ (Z ++ (X2 ++ (Y2 ++ R)))) w2 by
                have e0 : X1 = [] := List.eq_nil_of_length_eq_zero (by have := F.out; omega)
                have h2 := S2.out
                refine ⟨X1 ++ Y1, ?_, by simpa using h2⟩
                rw [e0]
                simpa using AX.out.2.2.1.st)
              obtain ⟨Z1, hZ1, hS3⟩ := S3.out
              have SZ := hid hZ1
              have S4 := hid hS3
              have LZ := hid (show Z1.length = X1.length + Y1.length by rw [hZ1.length]; simp)
              clear hZ1 hS3 S3
              go_wp2_with fail
              refine (IH.out (A ++ Z1) X2 Y2 R _ mid en b (by have := F.out; have := HK.out; omega) (by simpa using S4.out) (by have := F.out; have := HN.out; have := HT.out; have := LZ.out; simp; omega) (by have := F.out; have := LZ.out; have := HB.out; simp; omega) (by have := F.out; omega) (by have := F.out; omega) (by have := F.out; omega) (by have := F.out; omega) AX.out.2.1 AX.out.2.2.2).mono ?_
              rintro e w4 ⟨rfl, h4⟩
              have S5 := hid h4
              clear h4
              obtain ⟨Z2, hZ2, hS5⟩ := S5.out
              have FIN := hid (show ∃ Z, St (X ++ Y) Z ∧ Sw w0 blk (A ++ (Z ++ R)) w4 from ⟨Z1 ++ Z2, by rw [← EX.out.1, ← EX.out.2]; exact st_halves (by rw [EX.out.1]; exact HX.out) (by rw [EX.out.2]; exact HY.out) SZ.out hZ2 PT.out.1 PT.out.2, by simpa using hS5⟩)
              clear hZ2 hS5 S5
              go_wp2
              all_goals (
                refine bodyPost_end (results_none rfl _ _ _) rfl ?_
                exact ⟨rfl, FIN.out⟩)
            · have hPI : (st : Int) < m := by omega
              have hQI : (st : Int) < mid := by omega
              have hUI : ¬ (a : Int) < st := by omega
              have hVI : ¬ (en : Int) < b := by omega
              have hP2 : (mid : Int) < en := by have := F.out; omega
              have hQ2 : (m : Int) < en := by have := F.out; omega
              have EI := enI.out
              clear hP hQ hU hV
              have b1 : (nn : Int) ≤ 2000000 := BN.out
              have b2 : (st : Int) ≤ 1000000 := BS.out
              go_wp2_with fail
              refine (rotate_any w0 blk cap (A ++ X1) X2 Y1 (Y2 ++ R) L0 _ st m en N (by simpa using S1.out) H0.out HL.out (by have := F.out; have := HN.out; have := HT.out; simp; omega) hblk (by have := F.out; simp; omega) (by have := F.out; simp; omega) (by have := F.out; simp; omega) (by have := F.out; omega) (by have := F.out; omega) hsz).mono ?_
              rintro e w2 ⟨rfl, h2⟩
              have S2 := hid (show Sw w0 blk (A ++ (X1 ++ (Y1 ++ (X2 ++ (Y2 ++ R))))) w2 by simpa using h2)
              clear h2
              have S3 := hid (show ∃ Z, St (X1 ++ Y1) Z ∧ Sw w0 blk (A ++ (Z ++ (X2 ++ (Y2 ++ R)))) w2 by
                have e0 : X1 = [] := List.eq_nil_of_length_eq_zero (by have := F.out; omega)
                have h2 := S2.out
                refine ⟨X1 ++ Y1, ?_, by simpa using h2⟩
                rw [e0]
                simpa using AX.out.2.2.1.st)
              obtain ⟨Z1, hZ1, hS3⟩ := S3.out
              have SZ := hid hZ1
              have S4 := hid hS3
              have LZ := hid (show Z1.length = X1.length + Y1.length by rw [hZ1.length]; simp)
              clear hZ1 hS3 S3
              have FIN := hid (show ∃ Z, St (X ++ Y) Z ∧ Sw w0 blk (A ++ (Z ++ R)) w2 by
                have e0 : Y2 = [] := List.eq_nil_of_length_eq_zero (by have := F.out; omega)
                have hz2 : St (X2 ++ Y2) (X2 ++ Y2) := by rw [e0]; simpa using AX.out.2.1.st
                exact ⟨Z1 ++ (X2 ++ Y2), by rw [← EX.out.1, ← EX.out.2]; exact st_halves (by rw [EX.out.1]; exact HX.out) (by rw [EX.out.2]; exact HY.out) SZ.out hz2 PT.out.1 PT.out.2, by simpa using S4.out⟩)
              go_wp2
              all_goals (
                refine bodyPost_end (results_none rfl _ _ _) rfl ?_
                exact ⟨rfl, FIN.out⟩)
        · by_cases hU : a < st
          · by_cases hV : en < b
            · have hPI : (st : Int) < m := by omega
              have hQI : ¬ (st : Int) < mid := by omega
              have hUI : (a : Int) < st := by omega
              have hVI : (en : Int) < b := by omega
              have hP2 : (mid : Int) < en := by have := F.out; omega
              have hQ2 : ¬ (m : Int) < en := by have := F.out; omega
              have EI := enI.out
              clear hP hQ hU hV
              have b1 : (nn : Int) ≤ 2000000 := BN.out
              have b2 : (st : Int) ≤ 1000000 := BS.out
              have S2 := hid (show Sw w0 blk (A ++ (X1 ++ (Y1 ++ (X2 ++ (Y2 ++ R))))) wr by
                have h2 := S1.out
                have e0 : Y1 = [] := List.eq_nil_of_length_eq_zero (by have := F.out; omega)
                rw [e0] at h2 ⊢
                simpa using h2)
              have S3 := hid (show ∃ Z, St (X1 ++ Y1) Z ∧ Sw w0 blk (A ++ (Z ++ (X2 ++ (Y2 ++ R)))) wr by
                have e0 : Y1 = [] := List.eq_nil_of_length_eq_zero (by have := F.out; omega)
                have h2 := S2.out
                refine ⟨X1 ++ Y1, ?_, by simpa using h2⟩
                rw [e0]
                simpa using AX.out.1.st)
              obtain ⟨Z1, hZ1, hS3⟩ := S3.out
              have SZ := hid hZ1
              have S4 := hid hS3
              have LZ := hid (show Z1.length = X1.length + Y1.length by rw [hZ1.length]; simp)
              clear hZ1 hS3 S3
              go_wp2_with fail
              refine (IH.out (A ++ Z1) X2 Y2 R _ mid en b (by have := F.out; have := HK.out; omega) (by simpa using S4.out) (by have := F.out; have := HN.out; have := HT.out; have := LZ.out; simp; omega) (by have := F.out; have := LZ.out; have := HB.out; simp; omega) (by have := F.out; omega) (by have := F.out; omega) (by have := F.out; omega) (by have := F.out; omega) AX.out.2.1 AX.out.2.2.2).mono ?_
              rintro e w4 ⟨rfl, h4⟩
              have S5 := hid h4
              clear h4
              obtain ⟨Z2, hZ2, hS5⟩ := S5.out
              have FIN := hid (show ∃ Z, St (X ++ Y) Z ∧ Sw w0 blk (A ++ (Z ++ R)) w4 from ⟨Z1 ++ Z2, by rw [← EX.out.1, ← EX.out.2]; exact st_halves (by rw [EX.out.1]; exact HX.out) (by rw [EX.out.2]; exact HY.out) SZ.out hZ2 PT.out.1 PT.out.2, by simpa using hS5⟩)
              clear hZ2 hS5 S5
              go_wp2
              all_goals (
                refine bodyPost_end (results_none rfl _ _ _) rfl ?_
                exact ⟨rfl, FIN.out⟩)
            · have hPI : (st : Int) < m := by omega
              have hQI : ¬ (st : Int) < mid := by omega
              have hUI : (a : Int) < st := by omega
              have hVI : ¬ (en : Int) < b := by omega
              have hP2 : (mid : Int) < en := by have := F.out; omega
              have hQ2 : ¬ (m : Int) < en := by have := F.out; omega
              have EI := enI.out
              clear hP hQ hU hV
              have b1 : (nn : Int) ≤ 2000000 := BN.out
              have b2 : (st : Int) ≤ 1000000 := BS.out
              have S2 := hid (show Sw w0 blk (A ++ (X1 ++ (Y1 ++ (X2 ++ (Y2 ++ R))))) wr by
                have h2 := S1.out
                have e0 : Y1 = [] := List.eq_nil_of_length_eq_zero (by have := F.out; omega)
                rw [e0] at h2 ⊢
                simpa using h2)
              have S3 := hid (show ∃ Z, St (X1 ++ Y1) Z ∧ Sw w0 blk (A ++ (Z ++ (X2 ++ (Y2 ++ R)))) wr by
                have e0 : Y1 = [] := List.eq_nil_of_length_eq_zero (by have := F.out; omega)
                have h2 := S2.out
                refine ⟨X1 ++ Y1, ?_, by simpa using h2⟩
                rw [e0]
                simpa using AX.out.1.st)
              obtain ⟨Z1, hZ1, hS3⟩ := S3.out
              have SZ := hid hZ1
              have S4 := hid hS3
              have LZ := hid (show Z1.length = X1.length + Y1.length by rw [hZ1.length]; simp)
              clear hZ1 hS3 S3
              have FIN := hid (show ∃ Z, St (X ++ Y) Z ∧ Sw w0 blk (A ++ (Z ++ R)) wr by
                have e0 : Y2 = [] := List.eq_nil_of_length_eq_zero (by have := F.out; omega)
                have hz2 : St (X2 ++ Y2) (X2 ++ Y2) := by rw [e0]; simpa using AX.out.2.1.st
                exact ⟨Z1 ++ (X2 ++ Y2), by rw [← EX.out.1, ← EX.out.2]; exact st_halves (by rw [EX.out.1]; exact HX.out) (by rw [EX.out.2]; exact HY.out) SZ.out hz2 PT.out.1 PT.out.2, by simpa using S4.out⟩)
              go_wp2
              all_goals (
                refine bodyPost_end (results_none rfl _ _ _) rfl ?_
                exact ⟨rfl, FIN.out⟩)
          · by_cases hV : en < b
            · have hPI : (st : Int) < m := by omega
              have hQI : ¬ (st : Int) < mid := by omega
              have hUI : ¬ (a : Int) < st := by omega
              have hVI : (en : Int) < b := by omega
              have hP2 : (mid : Int) < en := by have := F.out; omega
              have hQ2 : ¬ (m : Int) < en := by have := F.out; omega
              have EI := enI.out
              clear hP hQ hU hV
              have b1 : (nn : Int) ≤ 2000000 := BN.out
              have b2 : (st : Int) ≤ 1000000 := BS.out
              have S2 := hid (show Sw w0 blk (A ++ (X1 ++ (Y1 ++ (X2 ++ (Y2 ++ R))))) wr by
                have h2 := S1.out
                have e0 : Y1 = [] := List.eq_nil_of_length_eq_zero (by have := F.out; omega)
                rw [e0] at h2 ⊢
                simpa using h2)
              have S3 := hid (show ∃ Z, St (X1 ++ Y1) Z ∧ Sw w0 blk (A ++ (Z ++ (X2 ++ (Y2 ++ R)))) wr by
                have e0 : X1 = [] := List.eq_nil_of_length_eq_zero (by have := F.out; omega)
                have h2 := S2.out
                refine ⟨X1 ++ Y1, ?_, by simpa using h2⟩
                rw [e0]
                simpa using AX.out.2.2.1.st)
              obtain ⟨Z1, hZ1, hS3⟩ := S3.out
              have SZ := hid hZ1
              have S4 := hid hS3
              have LZ := hid (show Z1.length = X1.length + Y1.length by rw [hZ1.length]; simp)
              clear hZ1 hS3 S3
              go_wp2_with fail
              refine (IH.out (A ++ Z1) X2 Y2 R _ mid en b (by have := F.out; have := HK.out; omega) (by simpa using S4.out) (by have := F.out; have := HN.out; have := HT.out; have := LZ.out; simp; omega) (by have := F.out; have := LZ.out; have := HB.out; simp; omega) (by have := F.out; omega) (by have := F.out; omega) (by have := F.out; omega) (by have := F.out; omega) AX.out.2.1 AX.out.2.2.2).mono ?_
              rintro e w4 ⟨rfl, h4⟩
              have S5 := hid h4
              clear h4
              obtain ⟨Z2, hZ2, hS5⟩ := S5.out
              have FIN := hid (show ∃ Z, St (X ++ Y) Z ∧ Sw w0 blk (A ++ (Z ++ R)) w4 from ⟨Z1 ++ Z2, by rw [← EX.out.1, ← EX.out.2]; exact st_halves (by rw [EX.out.1]; exact HX.out) (by rw [EX.out.2]; exact HY.out) SZ.out hZ2 PT.out.1 PT.out.2, by simpa using hS5⟩)
              clear hZ2 hS5 S5
              go_wp2
              all_goals (
                refine bodyPost_end (results_none rfl _ _ _) rfl ?_
                exact ⟨rfl, FIN.out⟩)
            · have hPI : (st : Int) < m := by omega
              have hQI : ¬ (st : Int) < mid := by omega
              have hUI : ¬ (a : Int) < st := by omega
              have hVI : ¬ (en : Int) < b := by omega
              have hP2 : (mid : Int) < en := by have := F.out; omega
              have hQ2 : ¬ (m : Int) < en := by have := F.out; omega
              have EI := enI.out
              clear hP hQ hU hV
              have b1 : (nn : Int) ≤ 2000000 := BN.out
              have b2 : (st : Int) ≤ 1000000 := BS.out
              have S2 := hid (show Sw w0 blk (A ++ (X1 ++ (Y1 ++ (X2 ++ (Y2 ++ R))))) wr by
                have h2 := S1.out
                have e0 : Y1 = [] := List.eq_nil_of_length_eq_zero (by have := F.out; omega)
                rw [e0] at h2 ⊢
                simpa using h2)
              have S3 := hid (show ∃ Z, St (X1 ++ Y1) Z ∧ Sw w0 blk (A ++ (Z ++ (X2 ++ (Y2 ++ R)))) wr by
                have e0 : X1 = [] := List.eq_nil_of_length_eq_zero (by have := F.out; omega)
                have h2 := S2.out
                refine ⟨X1 ++ Y1, ?_, by simpa using h2⟩
                rw [e0]
                simpa using AX.out.2.2.1.st)
              obtain ⟨Z1, hZ1, hS3⟩ := S3.out
              have SZ := hid hZ1
              have S4 := hid hS3
              have LZ := hid (show Z1.length = X1.length + Y1.length by rw [hZ1.length]; simp)
              clear hZ1 hS3 S3
              have FIN := hid (show ∃ Z, St (X ++ Y) Z ∧ Sw w0 blk (A ++ (Z ++ R)) wr by
                have e0 : Y2 = [] := List.eq_nil_of_length_eq_zero (by have := F.out; omega)
                have hz2 : St (X2 ++ Y2) (X2 ++ Y2) := by rw [e0]; simpa using AX.out.2.1.st
                exact ⟨Z1 ++ (X2 ++ Y2), by rw [← EX.out.1, ← EX.out.2]; exact st_halves (by rw [EX.out.1]; exact HX.out) (by rw [EX.out.2]; exact HY.out) SZ.out hz2 PT.out.1 PT.out.2, by simpa using S4.out⟩)
              go_wp2
              all_goals (
                refine bodyPost_end (results_none rfl _ _ _) rfl ?_
                exact ⟨rfl, FIN.out⟩)
      · by_cases hQ : st < mid
        · by_cases hU : a < st
          · by_cases hV : en < b
            · have hPI : ¬ (st : Int) < m := by omega
              have hQI : (st : Int) < mid := by omega
              have hUI : (a : Int) < st := by omega
              have hVI : (en : Int) < b := by omega
              have hP2 : ¬ (mid : Int) < en := by have := F.out; omega
              have hQ2 : (m : Int) < en := by have := F.out; omega
              have EI := enI.out
              clear hP hQ hU hV
              have b1 : (nn : Int) ≤ 2000000 := BN.out
              have b2 : (st : Int) ≤ 1000000 := BS.out
              have S2 := hid (show Sw w0 blk (A ++ (X1 ++ (Y1 ++ (X2 ++ (Y2 ++ R))))) wr by
                have h2 := S1.out
                have e0 : X2 = [] := List.eq_nil_of_length_eq_zero (by have := F.out; omega)
                rw [e0] at h2 ⊢
                simpa using h2)
              go_wp2_with fail
              refine (IH.out A X1 Y1 (X2 ++ (Y2 ++ R)) _ a st mid (by have := F.out; have := HK.out; omega) S2.out (by have := F.out; have := HN.out; have := HT.out; simp; omega) HB.out.1 (by have := F.out; omega) (by have := F.out; omega) (by have := F.out; omega) (by have := F.out; omega) AX.out.1 AX.out.2.2.1).mono ?_
              rintro e w3 ⟨rfl, h3⟩
              have S3 := hid h3
              clear h3
              obtain ⟨Z1, hZ1, hS3⟩ := S3.out
              have SZ := hid hZ1
              have S4 := hid hS3
              have LZ := hid (show Z1.length = X1.length + Y1.length by rw [hZ1.length]; simp)
              clear hZ1 hS3 S3
              have FIN := hid (show ∃ Z, St (X ++ Y) Z ∧ Sw w0 blk (A ++ (Z ++ R)) w3 by
                have e0 : X2 = [] := List.eq_nil_of_length_eq_zero (by have := F.out; omega)
                have hz2 : St (X2 ++ Y2) (X2 ++ Y2) := by rw [e0]; simpa using AX.out.2.2.2.st
                exact ⟨Z1 ++ (X2 ++ Y2), by rw [← EX.out.1, ← EX.out.2]; exact st_halves (by rw [EX.out.1]; exact HX.out) (by rw [EX.out.2]; exact HY.out) SZ.out hz2 PT.out.1 PT.out.2, by simpa using S4.out⟩)
              go_wp2
              all_goals (
                refine bodyPost_end (results_none rfl _ _ _) rfl ?_
                exact ⟨rfl, FIN.out⟩)
            · have hPI : ¬ (st : Int) < m := by omega
              have hQI : (st : Int) < mid := by omega
              have hUI : (a : Int) < st := by omega
              have hVI : ¬ (en : Int) < b := by omega
              have hP2 : ¬ (mid : Int) < en := by have := F.out; omega
              have hQ2 : (m : Int) < en := by have := F.out; omega
              have EI := enI.out
              clear hP hQ hU hV
              have b1 : (nn : Int) ≤ 2000000 := BN.out
              have b2 : (st : Int) ≤ 1000000 := BS.out
              have S2 := hid (show Sw w0 blk (A ++ (X1 ++ (Y1 ++ (X2 ++ (Y2 ++ R))))) wr by
                have h2 := S1.out
                have e0 : X2 = [] := List.eq_nil_of_length_eq_zero (by have := F.out; omega)
                rw [e0] at h2 ⊢
                simpa using h2)
              go_wp2_with fail
              refine (IH.out A X1 Y1 (X2 ++ (Y2 ++ R)) _ a st mid (by have := F.out; have := HK.out; omega) S2.out (by have := F.out; have := HN.out; have := HT.out; simp; omega) HB.out.1 (by have := F.out; omega) (by have := F.out; omega) (by have := F.out; omega) (by have := F.out; omega) AX.out.1 AX.out.2.2.1).mono ?_
              rintro e w3 ⟨rfl, h3⟩
              have S3 := hid h3
              clear h3
              obtain ⟨Z1, hZ1, hS3⟩ := S3.out
              have SZ := hid hZ1
              have S4 := hid hS3
              have LZ := hid (show Z1.length = X1.length + Y1.length by rw [hZ1.length]; simp)
              clear hZ1 hS3 S3
              have FIN := hid (show ∃ Z, St (X ++ Y) Z ∧ Sw w0 blk (A ++ (Z ++ R)) w3 by
                have e0 : X2 = [] := List.eq_nil_of_length_eq_zero (by have := F.out; omega)
                have hz2 : St (X2 ++ Y2) (X2 ++ Y2) := by rw [e0]; simpa using AX.out.2.2.2.st
                exact ⟨Z1 ++ (X2 ++ Y2), by rw [← EX.out.1, ← EX.out.2]; exact st_halves (by rw [EX.out.1]; exact HX.out) (by rw [EX.out.2]; exact HY.out) SZ.out hz2 PT.out.1 PT.out.2, by simpa using S4.out⟩)
              go_wp2
              all_goals (
                refine bodyPost_end (results_none rfl _ _ _) rfl ?_
                exact ⟨rfl, FIN.out⟩)
          · by_cases hV : en < b
            · have hPI : ¬ (st : Int) < m := by omega
              have hQI : (st : Int) < mid := by omega
              have hUI : ¬ (a : Int) < st := by omega
              have hVI : (en : Int) < b := by omega
              have hP2 : ¬ (mid : Int) < en := by have := F.out; omega
              have hQ2 : (m : Int) < en := by have := F.out; omega
              have EI := enI.out
              clear hP hQ hU hV
              have b1 : (nn : Int) ≤ 2000000 := BN.out
              have b2 : (st : Int) ≤ 1000000 := BS.out
              have S2 := hid (show Sw w0 blk (A ++ (X1 ++ (Y1 ++ (X2 ++ (Y2 ++ R))))) wr by
                have h2 := S1.out
                have e0 : X2 = [] := List.eq_nil_of_length_eq_zero (by have := F.out; omega)
                rw [e0] at h2 ⊢
                simpa using h2)
              have S3 := hid (show ∃ Z, St (X1 ++ Y1) Z ∧ Sw w0 blk (A ++ (Z ++ (X2 ++ (Y2 ++ R)))) wr by
                have e0 : X1 = [] := List.eq_nil_of_length_eq_zero (by have := F.out; omega)
                have h2 := S2.out
                refine ⟨X1 ++ Y1, ?_, by simpa using h2⟩
                rw [e0]
                simpa using AX.out.2.2.1.st)
              obtain ⟨Z1, hZ1, hS3⟩ := S3.out
              have SZ := hid hZ1
              have S4 := hid hS3
              have LZ := hid (show Z1.length = X1.length + Y1.length by rw [hZ1.length]; simp)
              clear hZ1 hS3 S3
              have FIN := hid (show ∃ Z, St (X ++ Y) Z ∧ Sw w0 blk (A ++ (Z ++ R)) wr by
                have e0 : X2 = [] := List.eq_nil_of_length_eq_zero (by have := F.out; omega)
                have hz2 : St (X2 ++ Y2) (X2 ++ Y2) := by rw [e0]; simpa using AX.out.2.2.2.st
                exact ⟨Z1 ++ (X2 ++ Y2), by rw [← EX.out.1, ← EX.out.2]; exact st_halves (by rw [EX.out.1]; exact HX.out) (by rw [EX.out.2]; exact HY.out) SZ.out hz2 PT.out.1 PT.out.2, by simpa using S4.out⟩)
              go_wp2
              all_goals (
                refine bodyPost_end (results_none rfl _ _ _) rfl ?_
                exact ⟨rfl, FIN.out⟩)
            · have hPI : ¬ (st : Int) < m := by omega
              have hQI : (st : Int) < mid := by omega
              have hUI : ¬ (a : Int) < st := by omega
              have hVI : ¬ (en : Int) < b := by omega
              have hP2 : ¬ (mid : Int) < en := by have := F.out; omega
              have hQ2 : (m : Int) < en := by have := F.out; omega
              have EI := enI.out
              clear hP hQ hU hV
              have b1 : (nn : Int) ≤ 2000000 := BN.out
              have b2 : (st : Int) ≤ 1000000 := BS.out
              have S2 := hid (show Sw w0 blk (A ++ (X1 ++ (Y1 ++ (X2 ++ (Y2 ++ R))))) wr by
                have h2 := S1.out
                have e0 : X2 = [] := List.eq_nil_of_length_eq_zero (by have := F.out; omega)
                rw [e0] at h2 ⊢
                simpa using h2)
              have S3 := hid (show ∃ Z, St (X1 ++ Y1) Z ∧ Sw w0 blk (A ++ (Z ++ (X2 ++ (Y2 ++ R)))) wr by
                have e0 : X1 = [] := List.eq_nil_of_length_eq_zero (by have := F.out; omega)
                have h2 := S2.out
                refine ⟨X1 ++ Y1, ?_, by simpa using h2⟩
                rw [e0]
                simpa using AX.out.2.2.1.st)
              obtain ⟨Z1, hZ1, hS3⟩ := S3.out
              have SZ := hid hZ1
              have S4 := hid hS3
              have LZ := hid (show Z1.length = X1.length + Y1.length by rw [hZ1.length]; simp)
              clear hZ1 hS3 S3
              have FIN := hid (show ∃ Z, St (X ++ Y) Z ∧ Sw w0 blk (A ++ (Z ++ R)) wr by
                have e0 : X2 = [] := List.eq_nil_of_length_eq_zero (by have := F.out; omega)
                have hz2 : St (X2 ++ Y2) (X2 ++ Y2) := by rw [e0]; simpa using AX.out.2.2.2.st
                exact ⟨Z1 ++ (X2 ++ Y2), by rw [← EX.out.1, ← EX.out.2]; exact st_halves (by rw [EX.out.1]; exact HX.out) (by rw [EX.out.2]; exact HY.out) SZ.out hz2 PT.out.1 PT.out.2, by simpa using S4.out⟩)
              go_wp2
              all_goals (
                refine bodyPost_end (results_none rfl _ _ _) rfl ?_
                exact ⟨rfl, FIN.out⟩)
        · by_cases hU : a < st
          · by_cases hV : en < b
            · have hPI : ¬ (st : Int) < m := by omega
              have hQI : ¬ (st : Int) < mid := by omega
              have hUI : (a : Int) < st := by omega
              have hVI : (en : Int) < b := by omega
              have hP2 : ¬ (mid : Int) < en := by have := F.out; omega
              have hQ2 : ¬ (m : Int) < en := by have := F.out; omega
              have EI := enI.out
              clear hP hQ hU hV
              have b1 : (nn : Int) ≤ 2000000 := BN.out
              have b2 : (st : Int) ≤ 1000000 := BS.out
              have S2 := hid (show Sw w0 blk (A ++ (X1 ++ (Y1 ++ (X2 ++ (Y2 ++ R))))) wr by
                have h2 := S1.out
                have e0 : X2 = [] := List.eq_nil_of_length_eq_zero (by have := F.out; omega)
                rw [e0] at h2 ⊢
                simpa using h2)
              have S3 := hid (show ∃ Z, St (X1 ++ Y1) Z ∧ Sw w0 blk (A ++ (Z ++ (X2 ++ (Y2 ++ R)))) wr by
                have e0 : Y1 = [] := List.eq_nil_of_length_eq_zero (by have := F.out; omega)
                have h2 := S2.out
                refine ⟨X1 ++ Y1, ?_, by simpa using h2⟩
                rw [e0]
                simpa using AX.out.1.st)
              obtain ⟨Z1, hZ1, hS3⟩ := S3.out
              have SZ := hid hZ1
              have S4 := hid hS3
              have LZ := hid (show Z1.length = X1.length + Y1.length by rw [hZ1.length]; simp)
              clear hZ1 hS3 S3
              have FIN := hid (show ∃ Z, St (X ++ Y) Z ∧ Sw w0 blk (A ++ (Z ++ R)) wr by
                have e0 : X2 = [] := List.eq_nil_of_length_eq_zero (by have := F.out; omega)
                have hz2 : St (X2 ++ Y2) (X2 ++ Y2) := by rw [e0]; simpa using AX.out.2.2.2.st
                exact ⟨Z1 ++ (X2 ++ Y2), by rw [← EX.out.1, ← EX.out.2]; exact st_halves (by rw [EX.out.1]; exact HX.out) (by rw [EX.out.2]; exact HY.out) SZ.out hz2 PT.out.1 PT.out.2, by simpa using S4.out⟩)
              go_wp2
              all_goals (
                refine bodyPost_end (results_none rfl _ _ _) rfl ?_
                exact ⟨rfl, FIN.out⟩)
            · have hPI : ¬ (st : Int) < m := by omega
              have hQI : ¬ (st : Int) < mid := by omega
              have hUI : (a : Int) < st := by omega
              have hVI : ¬ (en : Int) < b := by omega
              have hP2 : ¬ (mid : Int) < en := by have := F.out; omega
              have hQ2 : ¬ (m : Int) < en := by have := F.out; omega
              have EI := enI.out
              clear hP hQ hU hV
              have b1 : (nn : Int) ≤ 2000000 := BN.out
              have b2 : (st : Int) ≤ 1000000 := BS.out
              have S2 := hid (show Sw w0 blk (A ++ (X1 ++ (Y1 ++ (X2 ++ (Y2 ++ R))))) wr by
                have h2 := S1.out
                have e0 : X2 = [] := List.eq_nil_of_length_eq_zero (by have := F.out; omega)
                rw [e0] at h2 ⊢
                simpa using h2)
              have S3 := hid (show ∃ Z, St (X1 ++ Y1) Z ∧ Sw w0 blk (A ++ (Z ++ (X2 ++ (Y2 ++ R)))) wr by
                have e0 : Y1 = [] := List.eq_nil_of_length_eq_zero (by have := F.out; omega)
                have h2 := S2.out
                refine ⟨X1 ++ Y1, ?_, by simpa using h2⟩
                rw [e0]
                simpa using AX.out.1.st)
              obtain ⟨Z1, hZ1, hS3⟩ := S3.out
              have SZ := hid hZ1
              have S4 := hid hS3
              have LZ := hid (show Z1.length = X1.length + Y1.length by rw [hZ1.length]; simp)
              clear hZ1 hS3 S3
              have FIN := hid (show ∃ Z, St (X ++ Y) Z ∧ Sw w0 blk (A ++ (Z ++ R)) wr by
                have e0 : X2 = [] := List.eq_nil_of_length_eq_zero (by have := F.out; omega)
                have hz2 : St (X2 ++ Y2) (X2 ++ Y2) := by rw [e0]; simpa using AX.out.2.2.2.st
                exact ⟨Z1 ++ (X2 ++ Y2), by rw [← EX.out.1, ← EX.out.2]; exact st_halves (by rw [EX.out.1]; exact HX.out) (by rw [EX.out.2]; exact HY.out) SZ.out hz2 PT.out.1 PT.out.2, by simpa using S4.out⟩)
              go_wp2
              all_goals (
                refine bodyPost_end (results_none rfl _ _ _) rfl ?_
                exact ⟨rfl, FIN.out⟩)
          · by_cases hV : en < b
            · have hPI : ¬ (st : Int) < m := by omega
              have hQI : ¬ (st : Int) < mid := by omega
              have hUI : ¬ (a : Int) < st := by omega
              have hVI : (en : Int) < b := by omega
              have hP2 : ¬ (mid : Int) < en := by have := F.out; omega
              have hQ2 : ¬ (m : Int) < en := by have := F.out; omega
              have EI := enI.out
              clear hP hQ hU hV
              have b1 : (nn : Int) ≤ 2000000 := BN.out
              have b2 : (st : Int) ≤ 1000000 := BS.out
              have S2 := hid (show Sw w0 blk (A ++ (X1 ++ (Y1 ++ (X2 ++ (Y2 ++ R))))) wr by
                have h2 := S1.out
                have e0 : X2 = [] := List.eq_nil_of_length_eq_zero (by have := F.out; omega)
                rw [e0] at h2 ⊢
                simpa using h2)
              have S3 := hid (show ∃ Z, St (X1 ++ Y1) Z ∧ Sw w0 blk (A ++ (Z ++ (X2 ++ (Y2 ++ R)))) wr by
                have e0 : X1 = [] := List.eq_nil_of_length_eq_zero (by have := F.out; omega)
                have h2 := S2.out
                refine ⟨X1 ++ Y1, ?_, by simpa using h2⟩
                rw [e0]
                simpa using AX.out.2.2.1.st)
              obtain ⟨Z1, hZ1, hS3⟩ := S3.out
              have SZ := hid hZ1
              have S4 := hid hS3
              have LZ := hid (show Z1.length = X1.length + Y1.length by rw [hZ1.length]; simp)
              clear hZ1 hS3 S3
              have FIN := hid (show ∃ Z, St (X ++ Y) Z ∧ Sw w0 blk (A ++ (Z ++ R)) wr by
                have e0 : X2 = [] := List.eq_nil_of_length_eq_zero (by have := F.out; omega)
                have hz2 : St (X2 ++ Y2) (X2 ++ Y2) := by rw [e0]; simpa using AX.out.2.2.2.st
                exact ⟨Z1 ++ (X2 ++ Y2), by rw [← EX.out.1, ← EX.out.2]; exact st_halves (by rw [EX.out.1]; exact HX.out) (by rw [EX.out.2]; exact HY.out) SZ.out hz2 PT.out.1 PT.out.2, by simpa using S4.out⟩)
              go_wp2
              all_goals (
                refine bodyPost_end (results_none rfl _ _ _) rfl ?_
                exact ⟨rfl, FIN.out⟩)
            · have hPI : ¬ (st : Int) < m := by omega
              have hQI : ¬ (st : Int) < mid := by omega
              have hUI : ¬ (a : Int) < st := by omega
              have hVI : ¬ (en : Int) < b := by omega
              have hP2 : ¬ (mid : Int) < en := by have := F.out; omega
              have hQ2 : ¬ (m : Int) < en := by have := F.out; omega
              have EI := enI.out
              clear hP hQ hU hV
              have b1 : (nn : Int) ≤ 2000000 := BN.out
              have b2 : (st : Int) ≤ 1000000 := BS.out
              have S2 := hid (show Sw w0 blk (A ++ (X1 ++ (Y1 ++ (X2 ++ (Y2 ++ R))))) wr by
                have h2 := S1.out
                have e0 : X2 = [] := List.eq_nil_of_length_eq_zero (by have := F.out; omega)
                rw [e0] at h2 ⊢
                simpa using h2)
              have S3 := hid (show ∃ Z, St (X1 ++ Y1) Z ∧ Sw w0 blk (A ++ (Z ++ (X2 ++ (Y2 ++ R)))) wr by
                have e0 : X1 = [] := List.eq_nil_of_length_eq_zero (by have := F.out; omega)
                have h2 := S2.out
                refine ⟨X1 ++ Y1, ?_, by simpa using h2⟩
                rw [e0]
                simpa using AX.out.2.2.1.st)
              obtain ⟨Z1, hZ1, hS3⟩ := S3.out
              have SZ := hid hZ1
              have S4 := hid hS3
              have LZ := hid (show Z1.length = X1.length + Y1.length by rw [hZ1.length]; simp)
              clear hZ1 hS3 S3
              have FIN := hid (show ∃ Z, St (X ++ Y) Z ∧ Sw w0 blk (A ++ (Z ++ R)) wr by
                have e0 : X2 = [] := List.eq_nil_of_length_eq_zero (by have := F.out; omega)
                have hz2 : St (X2 ++ Y2) (X2 ++ Y2) := by rw [e0]; simpa using AX.out.2.2.2.st
                exact ⟨Z1 ++ (X2 ++ Y2), by rw [← EX.out.1, ← EX.out.2]; exact st_halves (by rw [EX.out.1]; exact HX.out) (by rw [EX.out.2]; exact HY.out) SZ.out hz2 PT.out.1 PT.out.2, by simpa using S4.out⟩)
              go_wp2
              all_goals (
                refine bodyPost_end (results_none rfl _ _ _) rfl ?_
                exact ⟨rfl, FIN.out⟩)
end Go.Proofs.Ytoaceeddcnijoaa
