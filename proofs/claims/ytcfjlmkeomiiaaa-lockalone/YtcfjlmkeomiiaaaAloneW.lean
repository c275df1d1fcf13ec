/- LockAlone's walk. -/
import Derived.Test.YtcfjlmkeomiiaaaAn
namespace Go.Proofs.Ytcfjlmkeomiiaaa
open Go.RowKit Go.Shelf Go.Lib Go.Sort Go.Maps
attribute [local go_sem] Oper.semAt_some

theorem cell30 (w : World) (a b c : Value) : (w.alloc (.cells #[a, b, c] 30)).cell? ⟨w.heap.size, 0, none⟩ = some a ∧ (w.alloc (.cells #[a, b, c] 30)).cell? ⟨w.heap.size, 1, none⟩ = some b ∧ (w.alloc (.cells #[a, b, c] 30)).cell? ⟨w.heap.size, 2, none⟩ = some c := by
  refine ⟨?_, ?_, ?_⟩ <;> simp
theorem first_of {M : Lk} (hl : 0 < ((ordL M.q).map (·.1)).length) : ((ordL M.q).map (·.1))[0]! = fstT M.q := by
  unfold fstT
  cases hz : ordL M.q with
  | nil => rw [hz] at hl; simp at hl
  | cons y r => simp
/-- What stands behind a call, and what alone then tells. -/
theorem Bh.alone {w0 W : World} {lb pb : Nat} {R : List Nat} {M : Lk} {F : Nat → Int} (h : Bh w0 W lb pb R M F) (hF : Fits M F) : Calls Try.prog 23 #[.pointer (some ⟨lb, 0, none⟩), .pointer (some ⟨pb, 0, none⟩)] W fun e w' => e = .returned (.bool true) ∧ Kp W w' [] := alone_any W lb pb R M F h.lc h.ok h.pr hF
set_option maxRecDepth 100000 in
set_option maxHeartbeats 3000000 in
theorem alone_walk (w : World) (V : Value) (N : Nat) (S : Nat → Sp) (hV : Sc w V N S) : Calls Try.prog 5 #[V] w fun e w' => e = .returned (.bool true) ∧ Kp w w' [] := by
  obtain ⟨so, sc, rfl⟩ := hV.shape
  have HV := hid hV
  clear hV
  go_enter Try.func5, Try.ntmps5
  go_wp2_with fail
  refine (known_any w).mono ?_
  rintro e w1 ⟨rfl, hk1⟩
  have K1 := hid hk1
  clear hk1
  go_wp2_with fail
  refine (lnew w1).mono ?_
  rintro e w2 ⟨lb, R1, rfl, hx, hx1, hx2⟩
  have ka := Kp.alloc w2 (.cells (vcl (fun _ => Value.int .i64 0) 16 0).toArray 37) []
  have D0 := hid (show An w (w2.alloc (.cells (vcl (fun _ => Value.int .i64 0) 16 0).toArray 37)) lb w2.heap.size from
    ⟨R1, newL, fun _ => 0, hx.same ka, lok_new, fun k hk => Nat.le_trans K1.out.size (hx1 k hk), fun hm => by have := hx.lt _ hm; omega, by have := K1.out.size; have := hx2.size; omega, heap_alloc_new w2 _, fun x hx => by simp [newL] at hx, (K1.out.trans hx2).trans ka⟩)
  rw [vcl_nil] at D0
  clear hx hx1 hx2 ka K1
  go_wp2_with fail
  obtain ⟨pb, hpb⟩ : ∃ pb, w2.heap.size = pb := ⟨_, rfl⟩
  rw [hpb] at D0 ⊢
  clear hpb
  go_loopw [5] (fun v wr => ∃ i : Nat, i ≤ 200 ∧ v = .int .i64 i ∧ Hid (An w wr lb pb)) (fun v _ => 200 - (intOf v).toNat)
  case atStart => exact ⟨0, by omega, rfl, D0⟩
  case round =>
    obtain ⟨i, hi, rfl, hA⟩ := hrel
    clear D0
    by_cases hin : i < N ∧ i < 200
    · have h1 : (i : Int) < N := by omega
      have h2 : (i : Int) < 200 := by omega
      obtain ⟨sb, off, rfl, y0, y1, y2⟩ := (HV.out.keep hA.out.kp).at hin.1
      have HI := hid (HV.out.i64 hin.1)
      have HLI := hid hin
      clear hin
      generalize (S i).k = k at y0
      generalize (S i).t = t at y1 HI
      generalize (S i).p = p at y2
      obtain ⟨R, M, F, a1, a2, a3, a4, a5, a6, a7, a8⟩ := hA.out
      have kb := Kp.alloc wr (.cells #[.int .i64 k, .int .i64 t, .int .i64 p] 30) []
      obtain ⟨x0, x1, x2⟩ := cell30 wr (.int .i64 k) (.int .i64 t) (.int .i64 p)
      have hlt := a1.lt
      have hpl := lt_of_block a6
      have B0 := hid (Bh.same ⟨a1, a2, a3, a4, a5, a6, a8⟩ kb)
      have HF := hid a7
      clear a1 a2 a3 a4 a5 a6 a7 a8 hA
      obtain ⟨W0, hW0⟩ : ∃ W0, wr.alloc (.cells #[.int .i64 k, .int .i64 t, .int .i64 p] 30) = W0 := ⟨_, rfl⟩
      obtain ⟨xb, hxb⟩ : ∃ xb, wr.heap.size = xb := ⟨_, rfl⟩
      have hs0 : W0.heap.size = xb + 1 := by rw [← hW0, ← hxb]; simp
      rw [hxb] at x0 x1 x2 hlt hpl
      rw [hW0] at x0 x1 x2 B0
      have CX := hid (fun (z : World) (rs : List Nat) (hk : Kp W0 z rs) (hr : ∀ k ∈ rs, k < xb) => And.intro (hk.cell x0 (fun hm => by have := hr _ hm; omega)) (And.intro (hk.cell x1 (fun hm => by have := hr _ hm; omega)) (hk.cell x2 (fun hm => by have := hr _ hm; omega))))
      have HLT := hid (show (∀ k ∈ R, k < xb) ∧ pb < xb ∧ W0.heap.size = xb + 1 from ⟨hlt, hpl, hs0⟩)
      have HWX := hid (And.intro hW0 hxb)
      clear kb x0 x1 x2 hlt hpl hW0 hxb hs0
      go_wp2_with fail
      rw [HWX.out.1, HWX.out.2]
      refine (lwriters W0 _ R M B0.out.lc.lv).mono ?_
      rintro e z0 ⟨xq, rfl, hxq, hkq⟩
      obtain ⟨aq, capq, rfl⟩ := hxq.slice
      have NQ := hid hxq
      have BQ := hid (B0.out.same hkq)
      have KQ := hid hkq
      obtain ⟨d0, d1, d2⟩ := CX.out z0 [] hkq (by simp)
      clear hxq hkq
      have FST := hid (fun hl => first_of (M := M) hl)
      have hQN : ((ordL M.q).map (·.1)).length ≤ 16 := by rw [List.length_map, ord_len BQ.out.ok.mid.qk]; exact BQ.out.ok.mid.qk.len
      generalize (ordL M.q).map (·.1) = OQ at NQ FST hQN ⊢
      obtain ⟨nq, hnq⟩ : ∃ nq, OQ.length = nq := ⟨_, rfl⟩
      rw [hnq] at NQ FST ⊢
      have HNQ := hid hnq
      clear hnq hQN
      by_cases k1 : k = 1
      · have kt : (k == 1) = true := by simp [k1]
        clear k1
        as_aux_lemma =>
          have H1 := hid (lread z0 lb R M t p BQ.out.lc BQ.out.ok.mid)
          have HOK := hid (BQ.out.ok.rd t p false)
          by_cases hE : askE M t p false = 0
          · have hrng := (ask_ok hE).1
            have FT := hid (HF.out.rd BQ.out.ok.mid t p hE)
            rw [hE] at H1
            obtain ⟨n, hn⟩ := int_nat hrng.1
            have HNN := hid hn
            clear hn
            have HRG := hid hrng
            clear hE hrng
            generalize rdM M t p false = MN at H1 HOK FT
            generalize rdB M t p = BB0 at H1
            go_wp2_with fail
            refine H1.out.mono ?_
            rintro e z1 ⟨rfl, hT⟩
            obtain ⟨R2, b2, n2, k2⟩ := BQ.out.to hT HOK.out
            have kW := KQ.out.nil.trans k2
            obtain ⟨e0, e1, e2⟩ := CX.out z1 R kW HLT.out.1
            have B2 := hid b2
            have f1 := b2.pr.free t.toNat
            have c1 := b2.pr.at (n := t.toNat) (by have := HRG.out; omega)
            have SET := hid (b2.set HRG.out p)
            clear hT b2 n2 k2 kW d0 d1 d2
            have hn := HNN.out
            subst hn
            clear HNN
            rw [Int.toNat_natCast] at f1 c1 SET
            have hn0 : (0 : Int) ≤ n := by omega
            have hn1 : (n : Int) < 16 := by have := HRG.out; omega
            go_wp2_with (go_at_call 18; refine (num_any _ _).mono ?_; rintro e wx ⟨rfl, hw⟩; obtain rfl := hw.symm)
            have BB := hid SET.out.1
            have BF := FT
            clear SET f1 c1 e0 e1 e2
            refine (BB.out.alone BF.out).mono ?_
            rintro e zA ⟨rfl, hkA⟩
            have BA := hid (BB.out.same hkA)
            have HWr := hid (lwriter zA _ _ _ BA.out.lc.lv)
            have FIN := hid (BA.out.an BF.out)
            clear hkA BA
            generalize wrV _ = WV at HWr
            generalize wrI _ = WI at HWr
            go_wp2_with fail
            refine HWr.out.mono ?_
            rintro e wx ⟨rfl, hw⟩; obtain rfl := hw.symm
            clear HWr
            go_wp2_with fail
            go_loopw [12] (fun v wr => v = .int .i64 0 ∧ Hid (wr = zA)) (fun _ _ => 0)
            case atStart => exact ⟨rfl, hid rfl⟩
            case round =>
              obtain ⟨rfl, hWE⟩ := hrel
              have hWE := hWE.out.symm
              subst hWE
              go_wp2
              go_roundw
              case rel => exact ⟨i + 1, by have := HLI.out; omega, by simp, FIN⟩
              case measure => simp [intOf]; have := HLI.out; omega
          · have hz : (askE M t p false == 0) = false := by simp [hE]
            have eM := rd_same (b := false) hE
            rw [eM] at H1 HOK
            generalize askE M t p false = E at H1 hz
            generalize rdB M t p = BB0 at H1
            clear hE eM
            go_wp2_with fail
            refine H1.out.mono ?_
            rintro e z1 ⟨rfl, hT⟩
            obtain ⟨R2, b2, n2, k2⟩ := BQ.out.to hT HOK.out
            have BB := hid b2
            have BF := HF
            clear hT b2 n2 k2 d0 d1 d2
            go_wp2_with (go_at_call 18; refine (num_any _ _).mono ?_; rintro e wx ⟨rfl, hw⟩; obtain rfl := hw.symm)
            refine (BB.out.alone BF.out).mono ?_
            rintro e zA ⟨rfl, hkA⟩
            have BA := hid (BB.out.same hkA)
            have HWr := hid (lwriter zA _ _ _ BA.out.lc.lv)
            have FIN := hid (BA.out.an BF.out)
            clear hkA BA
            generalize wrV _ = WV at HWr
            generalize wrI _ = WI at HWr
            go_wp2_with fail
            refine HWr.out.mono ?_
            rintro e wx ⟨rfl, hw⟩; obtain rfl := hw.symm
            clear HWr
            go_wp2_with fail
            go_loopw [12] (fun v wr => v = .int .i64 0 ∧ Hid (wr = zA)) (fun _ _ => 0)
            case atStart => exact ⟨rfl, hid rfl⟩
            case round =>
              obtain ⟨rfl, hWE⟩ := hrel
              have hWE := hWE.out.symm
              subst hWE
              go_wp2
              go_roundw
              case rel => exact ⟨i + 1, by have := HLI.out; omega, by simp, FIN⟩
              case measure => simp [intOf]; have := HLI.out; omega
      by_cases k2 : k = 2
      · have kt : (k == 2) = true := by simp [k2]
        have kf1 : (k == 1) = false := by simp [k1]
        clear k1 k2
        as_aux_lemma =>
          have H1 := hid (lwrite z0 lb R M t p BQ.out.lc BQ.out.ok.mid)
          have HOK := hid (BQ.out.ok.wr t p false)
          by_cases hE : askE M t p true = 0
          · have hrng := (ask_ok hE).1
            have FT := hid (HF.out.wr BQ.out.ok.mid t p hE)
            rw [hE] at H1
            obtain ⟨n, hn⟩ := int_nat hrng.1
            have HNN := hid hn
            clear hn
            have HRG := hid hrng
            clear hE hrng
            generalize wrM M t p false = MN at H1 HOK FT
            generalize wrB M t p = BB0 at H1
            go_wp2_with fail
            refine H1.out.mono ?_
            rintro e z1 ⟨rfl, hT⟩
            obtain ⟨R2, b2, n2, k2⟩ := BQ.out.to hT HOK.out
            have kW := KQ.out.nil.trans k2
            obtain ⟨e0, e1, e2⟩ := CX.out z1 R kW HLT.out.1
            have B2 := hid b2
            have f1 := b2.pr.free t.toNat
            have c1 := b2.pr.at (n := t.toNat) (by have := HRG.out; omega)
            have SET := hid (b2.set HRG.out p)
            clear hT b2 n2 k2 kW d0 d1 d2
            have hn := HNN.out
            subst hn
            clear HNN
            rw [Int.toNat_natCast] at f1 c1 SET
            have hn0 : (0 : Int) ≤ n := by omega
            have hn1 : (n : Int) < 16 := by have := HRG.out; omega
            go_wp2_with (go_at_call 18; refine (num_any _ _).mono ?_; rintro e wx ⟨rfl, hw⟩; obtain rfl := hw.symm)
            have BB := hid SET.out.1
            have BF := FT
            clear SET f1 c1 e0 e1 e2
            refine (BB.out.alone BF.out).mono ?_
            rintro e zA ⟨rfl, hkA⟩
            have BA := hid (BB.out.same hkA)
            have HWr := hid (lwriter zA _ _ _ BA.out.lc.lv)
            have FIN := hid (BA.out.an BF.out)
            clear hkA BA
            generalize wrV _ = WV at HWr
            generalize wrI _ = WI at HWr
            go_wp2_with fail
            refine HWr.out.mono ?_
            rintro e wx ⟨rfl, hw⟩; obtain rfl := hw.symm
            clear HWr
            go_wp2_with fail
            go_loopw [12] (fun v wr => v = .int .i64 0 ∧ Hid (wr = zA)) (fun _ _ => 0)
            case atStart => exact ⟨rfl, hid rfl⟩
            case round =>
              obtain ⟨rfl, hWE⟩ := hrel
              have hWE := hWE.out.symm
              subst hWE
              go_wp2
              go_roundw
              case rel => exact ⟨i + 1, by have := HLI.out; omega, by simp, FIN⟩
              case measure => simp [intOf]; have := HLI.out; omega
          · have hz : (askE M t p true == 0) = false := by simp [hE]
            have eM := wr_same (b := false) hE
            rw [eM] at H1 HOK
            generalize askE M t p true = E at H1 hz
            generalize wrB M t p = BB0 at H1
            clear hE eM
            go_wp2_with fail
            refine H1.out.mono ?_
            rintro e z1 ⟨rfl, hT⟩
            obtain ⟨R2, b2, n2, k2⟩ := BQ.out.to hT HOK.out
            have BB := hid b2
            have BF := HF
            clear hT b2 n2 k2 d0 d1 d2
            go_wp2_with (go_at_call 18; refine (num_any _ _).mono ?_; rintro e wx ⟨rfl, hw⟩; obtain rfl := hw.symm)
            refine (BB.out.alone BF.out).mono ?_
            rintro e zA ⟨rfl, hkA⟩
            have BA := hid (BB.out.same hkA)
            have HWr := hid (lwriter zA _ _ _ BA.out.lc.lv)
            have FIN := hid (BA.out.an BF.out)
            clear hkA BA
            generalize wrV _ = WV at HWr
            generalize wrI _ = WI at HWr
            go_wp2_with fail
            refine HWr.out.mono ?_
            rintro e wx ⟨rfl, hw⟩; obtain rfl := hw.symm
            clear HWr
            go_wp2_with fail
            go_loopw [12] (fun v wr => v = .int .i64 0 ∧ Hid (wr = zA)) (fun _ _ => 0)
            case atStart => exact ⟨rfl, hid rfl⟩
            case round =>
              obtain ⟨rfl, hWE⟩ := hrel
              have hWE := hWE.out.symm
              subst hWE
              go_wp2
              go_roundw
              case rel => exact ⟨i + 1, by have := HLI.out; omega, by simp, FIN⟩
              case measure => simp [intOf]; have := HLI.out; omega
      by_cases k7 : k = 7
      · have kt : (k == 7) = true := by simp [k7]
        have kf1 : (k == 1) = false := by simp [k1]
        have kf2 : (k == 2) = false := by simp [k2]
        clear k1 k2 k7
        as_aux_lemma =>
          have H1 := hid (lchange z0 lb R M t p BQ.out.lc BQ.out.ok.mid HI.out)
          have HOK := hid (BQ.out.ok.ch t p)
          by_cases hE : chgEL M t p = 0
          · obtain ⟨ft, hrng⟩ := HF.out.ch BQ.out.ok.mid t p hE
            have FT := hid ft
            rw [hE] at H1
            obtain ⟨n, hn⟩ := int_nat hrng.1
            have HNN := hid hn
            clear hn
            have HRG := hid hrng
            clear hE ft hrng
            generalize chM M t p = MN at H1 HOK FT
            generalize chO M t p = OI at H1
            generalize OI.length = m at H1
            go_wp2_with fail
            refine H1.out.mono ?_
            rintro e z1 ⟨ai, capi, rfl, hL⟩
            obtain ⟨R2, b2, n2, k2⟩ := BQ.out.to hL.to HOK.out
            have kW := KQ.out.nil.trans k2
            obtain ⟨e0, e1, e2⟩ := CX.out z1 R kW HLT.out.1
            have f1 := b2.pr.free t.toNat
            have c1 := b2.pr.at (n := t.toNat) (by have := HRG.out; omega)
            have SET := hid (b2.set HRG.out p)
            clear hL b2 n2 k2 kW d0 d1 d2
            have hn := HNN.out
            subst hn
            clear HNN
            rw [Int.toNat_natCast] at f1 c1 SET
            have hn0 : (0 : Int) ≤ n := by omega
            have hn1 : (n : Int) < 16 := by have := HRG.out; omega
            go_wp2_with (go_at_call 18; refine (num_any _ _).mono ?_; rintro e wx ⟨rfl, hw⟩; obtain rfl := hw.symm)
            have BB := hid SET.out.1
            have BF := FT
            clear SET f1 c1 e0 e1 e2
            refine (BB.out.alone BF.out).mono ?_
            rintro e zA ⟨rfl, hkA⟩
            have BA := hid (BB.out.same hkA)
            have HWr := hid (lwriter zA _ _ _ BA.out.lc.lv)
            have FIN := hid (BA.out.an BF.out)
            clear hkA BA
            generalize wrV _ = WV at HWr
            generalize wrI _ = WI at HWr
            go_wp2_with fail
            refine HWr.out.mono ?_
            rintro e wx ⟨rfl, hw⟩; obtain rfl := hw.symm
            clear HWr
            go_wp2_with fail
            go_loopw [12] (fun v wr => v = .int .i64 0 ∧ Hid (wr = zA)) (fun _ _ => 0)
            case atStart => exact ⟨rfl, hid rfl⟩
            case round =>
              obtain ⟨rfl, hWE⟩ := hrel
              have hWE := hWE.out.symm
              subst hWE
              by_cases hm0 : 0 < m
              · have hm0I : (0 : Int) < m := by omega
                go_wp2
                go_roundw
                case rel => exact ⟨i + 1, by have := HLI.out; omega, by simp, FIN⟩
                case measure => simp [intOf]; have := HLI.out; omega
              · have hm0N : m = 0 := by omega
                subst hm0N
                go_wp2
                go_roundw
                case rel => exact ⟨i + 1, by have := HLI.out; omega, by simp, FIN⟩
                case measure => simp [intOf]; have := HLI.out; omega
          · have hz : (chgEL M t p == 0) = false := by simp [hE]
            have eM := ch_no hE
            rw [eM] at H1 HOK
            generalize chO M t p = OI at H1
            generalize OI.length = m at H1
            generalize chgEL M t p = E at H1 hz
            clear hE eM
            go_wp2_with fail
            refine H1.out.mono ?_
            rintro e z1 ⟨ai, capi, rfl, hL⟩
            obtain ⟨R2, b2, n2, k2⟩ := BQ.out.to hL.to HOK.out
            have BB := hid b2
            have BF := HF
            clear hL b2 n2 k2 d0 d1 d2
            go_wp2_with (go_at_call 18; refine (num_any _ _).mono ?_; rintro e wx ⟨rfl, hw⟩; obtain rfl := hw.symm)
            refine (BB.out.alone BF.out).mono ?_
            rintro e zA ⟨rfl, hkA⟩
            have BA := hid (BB.out.same hkA)
            have HWr := hid (lwriter zA _ _ _ BA.out.lc.lv)
            have FIN := hid (BA.out.an BF.out)
            clear hkA BA
            generalize wrV _ = WV at HWr
            generalize wrI _ = WI at HWr
            go_wp2_with fail
            refine HWr.out.mono ?_
            rintro e wx ⟨rfl, hw⟩; obtain rfl := hw.symm
            clear HWr
            go_wp2_with fail
            go_loopw [12] (fun v wr => v = .int .i64 0 ∧ Hid (wr = zA)) (fun _ _ => 0)
            case atStart => exact ⟨rfl, hid rfl⟩
            case round =>
              obtain ⟨rfl, hWE⟩ := hrel
              have hWE := hWE.out.symm
              subst hWE
              by_cases hm0 : 0 < m
              · have hm0I : (0 : Int) < m := by omega
                go_wp2
                go_roundw
                case rel => exact ⟨i + 1, by have := HLI.out; omega, by simp, FIN⟩
                case measure => simp [intOf]; have := HLI.out; omega
              · have hm0N : m = 0 := by omega
                subst hm0N
                go_wp2
                go_roundw
                case rel => exact ⟨i + 1, by have := HLI.out; omega, by simp, FIN⟩
                case measure => simp [intOf]; have := HLI.out; omega
      by_cases k3 : k = 3
      · have kt : (k == 3) = true := by simp [k3]
        have kf1 : (k == 1) = false := by simp [k1]
        have kf2 : (k == 2) = false := by simp [k2]
        have kf7 : (k == 7) = false := by simp [k7]
        clear k1 k2 k7 k3
        as_aux_lemma =>
          have H1 := hid (ltryR z0 lb R M t p BQ.out.lc BQ.out.ok.mid)
          have HOK := hid (BQ.out.ok.rd t p true)
          have FT := hid (HF.out.sub (M' := rdM M t p true) (fun x hx => by rw [rd_try.1] at hx; exact hx) (fun x hx => by rw [rd_try.2] at hx; exact hx))
          generalize rdM M t p true = MN at H1 HOK FT
          generalize rdB M t p = BB0 at H1
          generalize askE M t p false = E at H1
          go_wp2_with fail
          refine H1.out.mono ?_
          rintro e z1 ⟨rfl, hT⟩
          obtain ⟨R2, b2, n2, k2⟩ := BQ.out.to hT HOK.out
          have BB := hid b2
          have BF := FT
          clear hT b2 n2 k2 d0 d1 d2
          go_wp2_with fail
          refine (BB.out.alone BF.out).mono ?_
          rintro e zA ⟨rfl, hkA⟩
          have BA := hid (BB.out.same hkA)
          have HWr := hid (lwriter zA _ _ _ BA.out.lc.lv)
          have FIN := hid (BA.out.an BF.out)
          clear hkA BA
          generalize wrV _ = WV at HWr
          generalize wrI _ = WI at HWr
          go_wp2_with fail
          refine HWr.out.mono ?_
          rintro e wx ⟨rfl, hw⟩; obtain rfl := hw.symm
          clear HWr
          go_wp2_with fail
          go_loopw [12] (fun v wr => v = .int .i64 0 ∧ Hid (wr = zA)) (fun _ _ => 0)
          case atStart => exact ⟨rfl, hid rfl⟩
          case round =>
            obtain ⟨rfl, hWE⟩ := hrel
            have hWE := hWE.out.symm
            subst hWE
            go_wp2
            go_roundw
            case rel => exact ⟨i + 1, by have := HLI.out; omega, by simp, FIN⟩
            case measure => simp [intOf]; have := HLI.out; omega
      by_cases k4 : k = 4
      · have kt : (k == 4) = true := by simp [k4]
        have kf1 : (k == 1) = false := by simp [k1]
        have kf2 : (k == 2) = false := by simp [k2]
        have kf7 : (k == 7) = false := by simp [k7]
        have kf3 : (k == 3) = false := by simp [k3]
        clear k1 k2 k7 k3 k4
        as_aux_lemma =>
          have H1 := hid (ltryW z0 lb R M t p BQ.out.lc BQ.out.ok.mid)
          have HOK := hid (BQ.out.ok.wr t p true)
          have FT := hid (HF.out.sub (M' := wrM M t p true) (fun x hx => by rw [wr_try.1] at hx; exact hx) (fun x hx => by rw [wr_try.2] at hx; exact hx))
          generalize wrM M t p true = MN at H1 HOK FT
          generalize wrB M t p = BB0 at H1
          generalize askE M t p true = E at H1
          go_wp2_with fail
          refine H1.out.mono ?_
          rintro e z1 ⟨rfl, hT⟩
          obtain ⟨R2, b2, n2, k2⟩ := BQ.out.to hT HOK.out
          have BB := hid b2
          have BF := FT
          clear hT b2 n2 k2 d0 d1 d2
          go_wp2_with fail
          refine (BB.out.alone BF.out).mono ?_
          rintro e zA ⟨rfl, hkA⟩
          have BA := hid (BB.out.same hkA)
          have HWr := hid (lwriter zA _ _ _ BA.out.lc.lv)
          have FIN := hid (BA.out.an BF.out)
          clear hkA BA
          generalize wrV _ = WV at HWr
          generalize wrI _ = WI at HWr
          go_wp2_with fail
          refine HWr.out.mono ?_
          rintro e wx ⟨rfl, hw⟩; obtain rfl := hw.symm
          clear HWr
          go_wp2_with fail
          go_loopw [12] (fun v wr => v = .int .i64 0 ∧ Hid (wr = zA)) (fun _ _ => 0)
          case atStart => exact ⟨rfl, hid rfl⟩
          case round =>
            obtain ⟨rfl, hWE⟩ := hrel
            have hWE := hWE.out.symm
            subst hWE
            go_wp2
            go_roundw
            case rel => exact ⟨i + 1, by have := HLI.out; omega, by simp, FIN⟩
            case measure => simp [intOf]; have := HLI.out; omega
      by_cases k5 : k = 5
      · have kt : (k == 5) = true := by simp [k5]
        have kf1 : (k == 1) = false := by simp [k1]
        have kf2 : (k == 2) = false := by simp [k2]
        have kf7 : (k == 7) = false := by simp [k7]
        have kf3 : (k == 3) = false := by simp [k3]
        have kf4 : (k == 4) = false := by simp [k4]
        clear k1 k2 k7 k3 k4 k5
        as_aux_lemma =>
          have H1 := hid (lunlock z0 lb R M t BQ.out.lc BQ.out.ok.mid)
          have HOK := hid (BQ.out.ok.un t)
          have FT := hid (HF.out.un t)
          have UNF := hid (fun h0 hin => un_first BQ.out.ok t h0 hin)
          have HMB := hid (show (unO M t).length ≤ 100000 from by
            unfold unO
            split
            · rename_i hE
              have := let_len _ (Nat.le_refl _) (BQ.out.ok.mid.un hE)
              have := size_le (BQ.out.ok.mid.un hE)
              omega
            · simp)
          generalize unO M t = OI at H1 UNF HMB
          obtain ⟨m, hm⟩ : ∃ m, OI.length = m := ⟨_, rfl⟩
          rw [hm] at H1 HMB
          have HML := hid hm
          clear hm
          generalize unE M t = E at H1
          go_wp2_with fail
          refine H1.out.mono ?_
          rintro e z1 ⟨ai, capi, rfl, hL⟩
          have NI1 := hid hL.1
          obtain ⟨R2, b2, n2, k2⟩ := BQ.out.to hL.to HOK.out
          have NQ1 := hid (NQ.out.kp k2 (fun g hg hm => by have := (owns_block NQ.out hg).1; have := HLT.out.1 g hm; have := HLT.out.2.2; omega))
          have BB := hid b2
          have BF := FT
          clear hL b2 n2 k2 d0 d1 d2
          go_wp2_with fail
          refine (BB.out.alone BF.out).mono ?_
          rintro e zA ⟨rfl, hkA⟩
          have BA := hid (BB.out.same hkA)
          have HWr := hid (lwriter zA _ _ _ BA.out.lc.lv)
          have NQA := hid (NQ1.out.keep hkA)
          have NIA := hid (NI1.out.keep hkA)
          have FIN := hid (BA.out.an BF.out)
          clear hkA BA NQ1 NI1
          generalize hWV : wrV _ = WV at HWr
          generalize hWI : wrI _ = WI at HWr
          have HVI := hid (And.intro hWV hWI)
          clear hWV hWI
          go_wp2_with fail
          refine HWr.out.mono ?_
          rintro e wx ⟨rfl, hw⟩; obtain rfl := hw.symm
          clear HWr
          go_wp2_with fail
          go_loopw [12] (fun v wr => ∃ n : Nat, n ≤ m ∧ v = .int .i64 n ∧ Hid (wr = zA)) (fun v _ => m - (intOf v).toNat)
          case atStart => exact ⟨0, by omega, rfl, hid rfl⟩
          case round =>
            obtain ⟨n, hn, rfl, hWE⟩ := hrel
            have hWE := hWE.out.symm
            subst hWE
            by_cases hnm : n < m
            · have hnI : (n : Int) < m := by omega
              have hn0 : (0 : Int) ≤ n := by omega
              have hwi : IntKind.i64.wrap ((n : Int) + 1) = (n : Int) + 1 := IntWalk.i64_in _ ⟨by omega, by have := HMB.out; omega⟩
              by_cases hq0 : 0 < nq
              · have hq0I : (0 : Int) < nq := by omega
                obtain ⟨gi, rfl, ci, -⟩ := NIA.out.at (k := n) (by have := HML.out; omega) rfl
                obtain ⟨gq, rfl, cq, -⟩ := NQA.out.at (k := 0) (by have := HNQ.out; omega) (FST.out hq0)
                have HEQ := hid (show WI = true → WV = fstT M.q from fun hb => by
                  have h0 : 0 ≤ (unM M t).w := by have := HVI.out.2; rw [hb] at this; unfold wrI at this; simpa using this
                  rw [← HVI.out.1]
                  unfold wrV
                  rw [if_pos h0]
                  exact UNF.out h0 (by have := HML.out; omega))
                generalize OI[n]! = vi at ci
                cases WI with
                | false =>
                  generalize fstT M.q = fq at cq HEQ
                  go_wp2
                  go_roundw
                  case rel => exact ⟨n + 1, by omega, by simp, hid (by trivial)⟩
                  case measure => simp [intOf]; omega
                | true =>
                  have hEQ := HEQ.out rfl
                  rw [← hEQ] at cq
                  clear hEQ
                  by_cases hvi : vi = WV
                  · have hvb : (vi == WV) = true := by simp [hvi]
                    have hvn : (WV != WV) = false := by simp
                    clear hvi
                    go_wp2
                    go_roundw
                    case rel => exact ⟨n + 1, by omega, by simp, hid (by trivial)⟩
                    case measure => simp [intOf]; omega
                  · have hvb : (vi == WV) = false := by simp [hvi]
                    clear hvi
                    go_wp2
                    go_roundw
                    case rel => exact ⟨n + 1, by omega, by simp, hid (by trivial)⟩
                    case measure => simp [intOf]; omega
              · have hqz : nq = 0 := by omega
                subst hqz
                go_wp2
                go_roundw
                case rel => exact ⟨i + 1, by have := HLI.out; omega, by simp, FIN⟩
                case measure => simp [intOf]; have := HLI.out; omega
            · have hnI : ¬ (n : Int) < m := by omega
              go_wp2
              go_roundw
              case rel => exact ⟨i + 1, by have := HLI.out; omega, by simp, FIN⟩
              case measure => simp [intOf]; have := HLI.out; omega
      by_cases k6 : k = 6
      · have kt : (k == 6) = true := by simp [k6]
        have kf1 : (k == 1) = false := by simp [k1]
        have kf2 : (k == 2) = false := by simp [k2]
        have kf7 : (k == 7) = false := by simp [k7]
        have kf3 : (k == 3) = false := by simp [k3]
        have kf4 : (k == 4) = false := by simp [k4]
        have kf5 : (k == 5) = false := by simp [k5]
        clear k1 k2 k7 k3 k4 k5 k6
        as_aux_lemma =>
          have H1 := hid (lleave z0 lb R M t BQ.out.lc BQ.out.ok.mid HI.out)
          have HOK := hid (BQ.out.ok.le t)
          have FT := hid (HF.out.le t)
          generalize leM M t = MN at H1 HOK FT
          generalize leO M t = OI at H1
          generalize OI.length = m at H1
          generalize leE M t = E at H1
          go_wp2_with fail
          refine H1.out.mono ?_
          rintro e z1 ⟨ai, capi, rfl, hL⟩
          obtain ⟨R2, b2, n2, k2⟩ := BQ.out.to hL.to HOK.out
          have BB := hid b2
          have BF := FT
          clear hL b2 n2 k2 d0 d1 d2
          go_wp2_with fail
          refine (BB.out.alone BF.out).mono ?_
          rintro e zA ⟨rfl, hkA⟩
          have BA := hid (BB.out.same hkA)
          have HWr := hid (lwriter zA _ _ _ BA.out.lc.lv)
          have FIN := hid (BA.out.an BF.out)
          clear hkA BA
          generalize wrV _ = WV at HWr
          generalize wrI _ = WI at HWr
          go_wp2_with fail
          refine HWr.out.mono ?_
          rintro e wx ⟨rfl, hw⟩; obtain rfl := hw.symm
          clear HWr
          go_wp2_with fail
          go_loopw [12] (fun v wr => v = .int .i64 0 ∧ Hid (wr = zA)) (fun _ _ => 0)
          case atStart => exact ⟨rfl, hid rfl⟩
          case round =>
            obtain ⟨rfl, hWE⟩ := hrel
            have hWE := hWE.out.symm
            subst hWE
            by_cases hm0 : 0 < m
            · have hm0I : (0 : Int) < m := by omega
              go_wp2
              go_roundw
              case rel => exact ⟨i + 1, by have := HLI.out; omega, by simp, FIN⟩
              case measure => simp [intOf]; have := HLI.out; omega
            · have hm0N : m = 0 := by omega
              subst hm0N
              go_wp2
              go_roundw
              case rel => exact ⟨i + 1, by have := HLI.out; omega, by simp, FIN⟩
              case measure => simp [intOf]; have := HLI.out; omega
      have kf1 : (k == 1) = false := by simp [k1]
      have kf2 : (k == 2) = false := by simp [k2]
      have kf7 : (k == 7) = false := by simp [k7]
      have kf3 : (k == 3) = false := by simp [k3]
      have kf4 : (k == 4) = false := by simp [k4]
      have kf5 : (k == 5) = false := by simp [k5]
      have kf6 : (k == 6) = false := by simp [k6]
      clear k1 k2 k7 k3 k4 k5 k6
      have BB := BQ
      have BF := HF
      go_wp2_with fail
      clear d0 d1 d2
      refine (BB.out.alone BF.out).mono ?_
      rintro e zA ⟨rfl, hkA⟩
      have BA := hid (BB.out.same hkA)
      have HWr := hid (lwriter zA _ _ _ BA.out.lc.lv)
      have FIN := hid (BA.out.an BF.out)
      clear hkA BA
      generalize wrV _ = WV at HWr
      generalize wrI _ = WI at HWr
      go_wp2_with fail
      refine HWr.out.mono ?_
      rintro e wx ⟨rfl, hw⟩; obtain rfl := hw.symm
      clear HWr
      go_wp2_with fail
      go_loopw [12] (fun v wr => v = .int .i64 0 ∧ Hid (wr = zA)) (fun _ _ => 0)
      case atStart => exact ⟨rfl, hid rfl⟩
      case round =>
        obtain ⟨rfl, hWE⟩ := hrel
        have hWE := hWE.out.symm
        subst hWE
        go_wp2
        go_roundw
        case rel => exact ⟨i + 1, by have := HLI.out; omega, by simp, FIN⟩
        case measure => simp [intOf]; have := HLI.out; omega
    · have hx : ¬ (i : Int) < N ∨ ((i : Int) < N ∧ ¬ (i : Int) < 200) := by omega
      clear hin
      have K6 := hid hA.out.kp
      clear hA
      rcases hx with h1 | ⟨h1, h2⟩
      all_goals go_wp2
      all_goals go_ret
      all_goals exact ⟨rfl, K6.out⟩
end Go.Proofs.Ytcfjlmkeomiiaaa
