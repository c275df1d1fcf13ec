/- QueueSame's walk. -/
import Derived.Deep.RegionHeldLaw
import Derived.Test.YtllkopekfanfaaaOsJ
import Derived.Test.YtllkopekfanfaaaArgs
namespace Go.Proofs.Ytllkopekfanfaaa
open Go.RowKit Go.Shelf Go.Lib Go.Sort Go.Maps
attribute [local go_sem] Oper.semAt_some

set_option maxRecDepth 100000 in
set_option maxHeartbeats 8000000 in
theorem same_walk (w : World) (a c : Int) (V V' : Value) (N1 N2 : Nat) (F F' : Nat → Stp) (hV : Scr w V N1 F) (hV' : Scr w V' N2 F') : Calls Try.prog 4 #[.agg #[.int .i64 a, .int .i64 c], V, V'] w fun e w' => e = .returned (.bool true) ∧ Kp w w' [] := by
  obtain ⟨so, sc, rfl⟩ := hV.shape
  obtain ⟨so', sc', rfl⟩ := hV'.shape
  have HV1 := hid hV
  have HV2 := hid hV'
  clear hV hV'
  obtain ⟨W0, hW0⟩ : ∃ W0, w.alloc (.cells #[.int .i64 a, .int .i64 c] 39) = W0 := ⟨_, rfl⟩
  have hc : ∀ z, Kp W0 z [] → z.cell? ⟨w.heap.size, 0, none⟩ = some (.int .i64 a) ∧ z.cell? ⟨w.heap.size, 1, none⟩ = some (.int .i64 c) := fun z hz => by
    refine ⟨hz.cell (by rw [← hW0]; simp) (by simp), hz.cell (by rw [← hW0]; simp) (by simp)⟩
  have HC := hid hc
  have K0 := hid (show Kp w W0 [] from by rw [← hW0]; exact Kp.alloc _ _ _)
  obtain ⟨c0, c1⟩ := hc W0 (Kp.refl _ _)
  clear hc
  go_enter Try.func4, Try.ntmps4
  go_wp2_with fail
  try rw [hW0]
  refine (qnew_any W0 a).mono ?_
  rintro e w1 ⟨x, E1, R1, rfl, n1, k1⟩
  obtain ⟨c0, c1⟩ := HC.out w1 k1
  have N1' := hid n1
  have K1 := hid k1
  clear n1 k1 hW0
  go_wp2_with fail
  refine (qnew_any w1 c).mono ?_
  rintro e w2 ⟨y, E2, R2, rfl, n2, k2⟩
  have N2' := hid n2
  have K2 := hid k2
  clear n2 k2 c0 c1
  have K12 := hid (K1.out.trans K2.out)
  go_wp2_with fail
  go_region_held_law (fun w1 => w1.cell? ⟨w.heap.size, 0, none⟩ = some (.int .i64 a) ∧ w1.cell? ⟨w.heap.size, 1, none⟩ = some (.int .i64 c))
    (first | exact HC.out _ (K12.out.trans (Kp.drew _ _)) | exact HC.out _ (K12.out.trans z1.out) | exact HC.out _ (K12.out.trans z2.out))
    (first
      | (go_at_call 8; have _hh := z1; refine (rqnew_any _ c).mono ?_; rintro e y2 ⟨q, Q2, rfl, r2, hk2⟩; have z2 := hid (z1.out.trans hk2); have RR2 := hid r2; have KK2 := hid hk2; clear r2 hk2)
      | (go_at_call 8; refine (rqnew_any _ a).mono ?_; rintro e y1 ⟨p, Q1, rfl, r1, hk1⟩; have z1 := hid ((Kp.drew w2 []).trans hk1); have RR1 := hid r1; have KK1 := hid hk1; clear r1 hk1)
      | fail)
  have D1 := hid (o2_new N1'.out N2'.out RR1.out RR2.out K1.out K2.out (Kp.drew w2 []) KK1.out KK2.out)
  clear N1' N2' RR1 RR2 K1 K2 KK1 KK2 K12 z1 z2 HC c0 c1
  go_wp2_with fail
  rename_i KA hKA
  have HKA := hid hKA
  clear hKA
  have HT1 : ∀ (i0 : Nat) (xx : Option Addr) (W : World) (u34 u35 u36 u37 u38 u39 u40 u41 u42 u43 u44 u45 u46 u47 u48 u49 u50 u51 u52 u53 u54 u55 u56 u57 u58 u59 u60 u61 : Value), i0 ≤ 60 → Hid (O2 W0 W xx p y q) → KA { tmps := #[.agg #[.int .i64 a, .int .i64 c], .slice so N1 sc, .slice so' N2 sc', .pointer (some ⟨w.heap.size, 0, none⟩), undef, undef, .bool false, .pointer xx, .int .i64 E1, .pointer y, .int .i64 E2, .pointer p, .pointer q, .bool true, .int .i64 (i0 : Nat), undef, .tuple #[.pointer x, .int .i64 E1], .pointer (some ⟨w.heap.size, 0, none⟩), .int .i64 a, .tuple #[.pointer x, .int .i64 E1], .pointer x, .int .i64 E1, .tuple #[.pointer y, .int .i64 E2], .pointer (some ⟨w.heap.size, 1, none⟩), .int .i64 c, .tuple #[.pointer y, .int .i64 E2], .pointer y, .int .i64 E2, .pointer (some ⟨w.heap.size, 0, none⟩), .int .i64 a, .pointer p, .pointer (some ⟨w.heap.size, 1, none⟩), .int .i64 c, .pointer q, u34, u35, u36, u37, u38, u39, u40, u41, u42, u43, u44, u45, u46, u47, u48, u49, u50, u51, u52, u53, u54, u55, u56, u57, u58, u59, u60, u61, undef, undef, undef, undef, undef, undef, undef, undef, undef, undef, undef, undef, undef, undef, undef, undef, undef, undef, undef, undef, undef, undef, undef, undef, undef, undef, undef, undef, undef, undef, undef, undef, undef, undef, undef, undef, undef, undef, undef, undef, undef, undef, undef, undef, undef, undef], defers := [] } W := by
    intro i0 xx W u34 u35 u36 u37 u38 u39 u40 u41 u42 u43 u44 u45 u46 u47 u48 u49 u50 u51 u52 u53 u54 u55 u56 u57 u58 u59 u60 u61 hi0 hT1
    refine HKA.out _ _ ?_
    clear HKA D1
    go_wp2_with fail
    rename_i KB hKB
    have HKB := hid hKB
    clear hKB
    have HT2 : ∀ (i1 : Nat) (yy : Option Addr) (W : World) (u62 u63 u64 u65 u66 u67 u68 u69 u70 u71 u72 u73 u74 u75 u76 u77 u78 u79 u80 u81 u82 u83 u84 u85 u86 u87 u88 u89 : Value), i1 ≤ 60 → Hid (O2 W0 W xx p yy q) → KB { tmps := #[.agg #[.int .i64 a, .int .i64 c], .slice so N1 sc, .slice so' N2 sc', .pointer (some ⟨w.heap.size, 0, none⟩), undef, undef, .bool false, .pointer xx, .int .i64 E1, .pointer yy, .int .i64 E2, .pointer p, .pointer q, .bool true, .int .i64 (i0 : Nat), .int .i64 (i1 : Nat), .tuple #[.pointer x, .int .i64 E1], .pointer (some ⟨w.heap.size, 0, none⟩), .int .i64 a, .tuple #[.pointer x, .int .i64 E1], .pointer x, .int .i64 E1, .tuple #[.pointer y, .int .i64 E2], .pointer (some ⟨w.heap.size, 1, none⟩), .int .i64 c, .tuple #[.pointer y, .int .i64 E2], .pointer y, .int .i64 E2, .pointer (some ⟨w.heap.size, 0, none⟩), .int .i64 a, .pointer p, .pointer (some ⟨w.heap.size, 1, none⟩), .int .i64 c, .pointer q, u34, u35, u36, u37, u38, u39, u40, u41, u42, u43, u44, u45, u46, u47, u48, u49, u50, u51, u52, u53, u54, u55, u56, u57, u58, u59, u60, u61, u62, u63, u64, u65, u66, u67, u68, u69, u70, u71, u72, u73, u74, u75, u76, u77, u78, u79, u80, u81, u82, u83, u84, u85, u86, u87, u88, u89, undef, undef, undef, undef, undef, undef, undef, undef, undef, undef, undef, undef, undef, undef, undef, undef, undef, undef], defers := [] } W := by
      intro i1 yy W u62 u63 u64 u65 u66 u67 u68 u69 u70 u71 u72 u73 u74 u75 u76 u77 u78 u79 u80 u81 u82 u83 u84 u85 u86 u87 u88 u89 hi1 HB
      refine HKB.out _ _ ?_
      clear HKB hT1
      obtain ⟨B, cB1, cB2⟩ := HB.out.sames
      have he : ∀ W, (binOp .eql 4 (.bool B) (.bool B)).run Try.prog W = .ok (.bool true) W := fun W => by cases B <;> kernel_rfl
      have CB1 := hid cB1
      have CB2 := hid cB2
      have K6 := hid (K0.out.trans HB.out.kp)
      clear cB1 cB2
      go_wp2_with fail
      refine CB1.out.mono ?_
      rintro e W5 ⟨rfl, k5⟩
      have HC := hid (HB.out.same k5)
      have CB3 := CB2.out W5 k5
      have K7 := hid (K6.out.trans k5)
      clear k5 CB1 CB2 HB K6
      go_wp2_with fail
      refine CB3.mono ?_
      rintro e W6 ⟨rfl, k6⟩
      have CS := (HC.out.same k6).self
      have K8 := hid (K7.out.trans k6)
      clear k6 HC K7 CB3
      go_wp2_with fail
      refine CS.mono ?_
      rintro e W7 ⟨rfl, k7⟩
      have K9 := hid (K8.out.trans k7)
      clear k7 CS K8
      go_wp2_with fail
      refine (known_any _).mono ?_
      rintro e W8 ⟨rfl, k8⟩
      have K10 := hid (K9.out.trans k8)
      clear k8 K9
      go_wp2
      go_ret
      exact ⟨rfl, K10.out⟩
    have HT2 := hid HT2
    clear HKB
    go_loopw [9, 12, 13, 15] (fun vx vp vo vi W => ∃ (i : Nat) (yy : Option Addr), i ≤ 60 ∧ vi = .int .i64 i ∧ vo = .bool true ∧ vp = .pointer q ∧ vx = .pointer yy ∧ Hid (O2 W0 W xx p yy q)) (fun _ _ _ vi _ => 60 - (intOf vi).toNat)
    case atStart => exact ⟨0, _, by omega, rfl, rfl, rfl, rfl, hT1⟩
    case round =>
      obtain ⟨i, yy, hi, rfl, rfl, rfl, rfl, hT⟩ := hrel
      by_cases hin : (i < N2 ∧ i < 60) ∧ ∃ P0, q = some P0
      · obtain ⟨hin, P0, rfl⟩ := hin
        have h1 : (i : Int) < N2 := by omega
        have h2 : (i : Int) < 60 := by omega
        obtain ⟨gb, off, rfl, y0, y1, y2, y3, y4⟩ := (HV2.out.keep (K0.out.trans hT.out.kp)).at hin.1
        have HU := hid (HV2.out.i64t hin.1)
        go_wp2_with fail
        refine (hT.out.swap.step (F' i).k (F' i).t (F' i).n (F' i).v (F' i).x HU.out).mono ?_
        rintro e W3 ⟨b', rfl, hT2⟩
        have T2 := hid hT2
        clear hT hT2 y0 y1 y2 y3 y4
        go_wp2
        go_roundw
        case rel => exact ⟨i + 1, b', by omega, by simp, rfl, rfl, rfl, hid T2.out.swap⟩
        case measure => simp [intOf]; omega
      · have hx : ¬ (i : Int) < N2 ∨ ((i : Int) < N2 ∧ ¬ (i : Int) < 60) ∨ ((i : Int) < N2 ∧ (i : Int) < 60 ∧ q = none) := by
          by_cases g1 : i < N2
          · by_cases g2 : i < 60
            · cases q with
              | none => exact .inr (.inr ⟨by omega, by omega, rfl⟩)
              | some P0 => exact absurd ⟨⟨g1, g2⟩, P0, rfl⟩ hin
            · exact .inr (.inl ⟨by omega, by omega⟩)
          · exact .inl (by omega)
        clear hin
        rcases hx with h1 | ⟨h1, h2⟩ | ⟨h1, h2, rfl⟩
        · go_wp2_with fail
          exact HT2.out _ _ _ _ _ _ _ _ _ _ _ _ _ _ _ _ _ _ _ _ _ _ _ _ _ _ _ _ _ _ _ hi hT
        · go_wp2_with fail
          exact HT2.out _ _ _ _ _ _ _ _ _ _ _ _ _ _ _ _ _ _ _ _ _ _ _ _ _ _ _ _ _ _ _ hi hT
        · go_wp2_with fail
          exact HT2.out _ _ _ _ _ _ _ _ _ _ _ _ _ _ _ _ _ _ _ _ _ _ _ _ _ _ _ _ _ _ _ hi hT
  have HT1 := hid HT1
  clear HKA
  go_loopw [7, 11, 13, 14] (fun vx vp vo vi W => ∃ (i : Nat) (xx : Option Addr), i ≤ 60 ∧ vi = .int .i64 i ∧ vo = .bool true ∧ vp = .pointer p ∧ vx = .pointer xx ∧ Hid (O2 W0 W xx p y q)) (fun _ _ _ vi _ => 60 - (intOf vi).toNat)
  case atStart => exact ⟨0, _, by omega, rfl, rfl, rfl, rfl, D1⟩
  case round =>
    obtain ⟨i, xx, hi, rfl, rfl, rfl, rfl, hT⟩ := hrel
    by_cases hin : (i < N1 ∧ i < 60) ∧ ∃ P0, p = some P0
    · obtain ⟨hin, P0, rfl⟩ := hin
      have h1 : (i : Int) < N1 := by omega
      have h2 : (i : Int) < 60 := by omega
      obtain ⟨gb, off, rfl, y0, y1, y2, y3, y4⟩ := (HV1.out.keep (K0.out.trans hT.out.kp)).at hin.1
      have HU := hid (HV1.out.i64t hin.1)
      go_wp2_with fail
      refine (hT.out.step (F i).k (F i).t (F i).n (F i).v (F i).x HU.out).mono ?_
      rintro e W3 ⟨b', rfl, hT2⟩
      have T2 := hid hT2
      clear hT hT2 y0 y1 y2 y3 y4
      go_wp2
      go_roundw
      case rel => exact ⟨i + 1, b', by omega, by simp, rfl, rfl, rfl, hid T2.out⟩
      case measure => simp [intOf]; omega
    · have hx : ¬ (i : Int) < N1 ∨ ((i : Int) < N1 ∧ ¬ (i : Int) < 60) ∨ ((i : Int) < N1 ∧ (i : Int) < 60 ∧ p = none) := by
        by_cases g1 : i < N1
        · by_cases g2 : i < 60
          · cases p with
            | none => exact .inr (.inr ⟨by omega, by omega, rfl⟩)
            | some P0 => exact absurd ⟨⟨g1, g2⟩, P0, rfl⟩ hin
          · exact .inr (.inl ⟨by omega, by omega⟩)
        · exact .inl (by omega)
      clear hin
      rcases hx with h1 | ⟨h1, h2⟩ | ⟨h1, h2, rfl⟩
      · go_wp2_with fail
        exact HT1.out _ _ _ _ _ _ _ _ _ _ _ _ _ _ _ _ _ _ _ _ _ _ _ _ _ _ _ _ _ _ _ hi hT
      · go_wp2_with fail
        exact HT1.out _ _ _ _ _ _ _ _ _ _ _ _ _ _ _ _ _ _ _ _ _ _ _ _ _ _ _ _ _ _ _ hi hT
      · go_wp2_with fail
        exact HT1.out _ _ _ _ _ _ _ _ _ _ _ _ _ _ _ _ _ _ _ _ _ _ _ _ _ _ _ _ _ _ _ hi hT
end Go.Proofs.Ytllkopekfanfaaa
