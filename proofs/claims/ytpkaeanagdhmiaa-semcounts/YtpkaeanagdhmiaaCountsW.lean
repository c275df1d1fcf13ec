/- SemCounts' walk. -/
import Derived.Test.YtpkaeanagdhmiaaPa
import Derived.Test.YtpkaeanagdhmiaaKn
import Derived.Test.YtpkaeanagdhmiaaArgs
namespace Go.Proofs.Ytpkaeanagdhmiaa
open Go.RowKit Go.Shelf Go.Lib Go.Sort Go.Maps
attribute [local go_sem] Oper.semAt_some

/-- A semaphore of that value, made behind w0. -/
def Cs (w0 W : World) (sb : Nat) (v : Int) : Prop := ∃ R L, Sm 74 W sb R v L ∧ Sok v L ∧ (∀ k ∈ R, w0.heap.size ≤ k) ∧ Kp w0 W []
theorem Cs.kp {w0 W : World} {sb : Nat} {v : Int} (h : Cs w0 W sb v) : Kp w0 W [] := by
  obtain ⟨R, L, -, -, -, h⟩ := h
  exact h
theorem Cs.same {w0 W W' : World} {sb : Nat} {v : Int} (h : Cs w0 W sb v) (hk : Kp W W' []) : Cs w0 W' sb v := by
  obtain ⟨R, L, h1, h2, h3, h4⟩ := h
  exact ⟨R, L, h1.same hk, h2, h3, h4.trans hk⟩
theorem cs_to {w0 W W' : World} {sb : Nat} {R : List Nat} {u : Int} {M : List Dl} (h3 : ∀ k ∈ R, w0.heap.size ≤ k) (h4 : Kp w0 W []) (h : To 74 W W' sb R u M) (hu : Sok u M) : Cs w0 W' sb u := by
  obtain ⟨R', s, n, k⟩ := h
  refine ⟨R', M, s, hu, fun y hy => ?_, h4.past k (fun y hy hl => by have := h3 y hy; omega)⟩
  rcases n y hy with q | q
  · exact h3 y q
  · have := h4.size; omega
/-- What the round's end looks at. -/
theorem Cs.look {w0 W : World} {sb : Nat} {v : Int} (h : Cs w0 W sb v) : (Calls Try.prog 13 #[.pointer (some ⟨sb, 0, none⟩)] W fun e w' => e = .returned (.int .i64 v) ∧ w' = W) ∧ 0 ≤ v ∧ v ≤ 32767 ∧ (0 < v → Calls Try.prog 14 #[.pointer (some ⟨sb, 0, none⟩)] W fun e w' => e = .returned (.int .i64 0) ∧ w' = W) := by
  obtain ⟨R, L, h1, h2, -, -⟩ := h
  refine ⟨sval W _ R v L h1.sv, h2.lo, h2.hi, fun h0 => ?_⟩
  have := slen W _ R v L h1.sv
  rw [h2.no h0] at this
  exact this
/-- The list's first is whom Post wakes. -/
theorem head_first {L : List Dl} (h : okL L) (hb : fstB L = true) : 0 < ((ordL L).map (·.1)).length ∧ ((ordL L).map (·.1))[0]! = fstT L ∧ 0 ≤ fstT L := by
  have hf := fst_has h hb
  obtain ⟨x, hx, e⟩ := mem_has.1 hf
  have hr := (h.rng x hx).1
  unfold fstT fstB at *
  cases hz : ordL L with
  | nil => rw [hz] at hb; simp at hb
  | cons y r =>
    rw [hz] at e
    refine ⟨by simp, by simp, ?_⟩
    simp only [List.headD_cons] at e ⊢
    omega
set_option maxRecDepth 100000 in
set_option maxHeartbeats 8000000 in
theorem counts_yes (w : World) (a : Int) (V : Value) (N : Nat) (S : Nat → Sp) (hV : Sc w V N S) (h0 : 0 ≤ a) (h1 : a ≤ 32767) : Calls Try.prog 6 #[.int .i64 a, V] w fun e w' => e = .returned (.bool true) ∧ Kp w w' [] := by
  obtain ⟨so, sc, rfl⟩ := hV.shape
  have HV := hid hV
  have H1 := hid (fun w1 => snew w1 a h0 h1)
  have HOK := hid (show Sok a [] from ⟨h0, h1, fun _ => rfl⟩)
  clear hV h0 h1
  go_enter Try.func6, Try.ntmps6
  go_wp2_with fail
  refine (known_any w).mono ?_
  rintro e w1 ⟨rfl, k1⟩
  have K1 := hid k1
  clear k1
  go_wp2_with fail
  refine (H1.out w1).mono ?_
  rintro e w2 ⟨xb, R1, rfl, hx, hx1, hx2⟩
  have D0 := hid (show Cs w w2 xb a from ⟨R1, [], hx, HOK.out, fun k hk => Nat.le_trans K1.out.size (hx1 k hk), K1.out.trans hx2⟩)
  clear hx hx1 hx2
  go_wp2_with (go_at_call 10; refine (num_any _ _).mono ?_; rintro e wx ⟨rfl, hw⟩; obtain rfl := hw.symm)
  go_loopw [7, 8] (fun vn vi W => ∃ (i : Nat) (v : Int), i ≤ 200 ∧ vi = .int .i64 i ∧ vn = .int .i64 v ∧ Hid (Cs w W xb v)) (fun _ vi _ => 200 - (intOf vi).toNat)
  case atStart => exact ⟨0, a, by omega, rfl, rfl, D0.out⟩
  case round =>
    obtain ⟨i, v, hi, rfl, rfl, hT⟩ := hrel
    clear D0
    by_cases hin : i < N ∧ i < 200
    · have h1 : (i : Int) < N := by omega
      have h2 : (i : Int) < 200 := by omega
      obtain ⟨sb, off, rfl, y0, y1, y2⟩ := (HV.out.keep hT.out.kp).at hin.1
      generalize (S i).k = k at y0
      generalize (S i).t = t at y1
      generalize (S i).p = p at y2
      obtain ⟨R, L, hs, hok, hfar, hkp⟩ := hT.out
      obtain ⟨W0, hW0⟩ : ∃ W0, wr.alloc (.cells #[.int .i64 k, .int .i64 t, .int .i64 p] 34) = W0 := ⟨_, rfl⟩
      obtain ⟨c0, c1, c2⟩ := cell3 wr (.int .i64 k) (.int .i64 t) (.int .i64 p)
      have kk : Kp wr W0 [] := by rw [← hW0]; exact Kp.alloc _ _ _
      rw [hW0] at c0 c1 c2
      have hbx : wr.heap.size ∉ R := fun hm => by have := hs.lt _ hm; omega
      have CC := hid (fun (z : World) (hk : Kp W0 z []) => And.intro (hk.cell c0 (by simp)) (And.intro (hk.cell c1 (by simp)) (hk.cell c2 (by simp))))
      have hNl : ((ordL L).map (·.1)).length = L.length := by rw [List.length_map, ord_len hs.ok]
      have HL := hid (slist W0 _ R v L (hs.same kk).sv)
      have HS := hid (And.intro hs (And.intro hok (And.intro hfar (And.intro hkp kk))))
      have HNL := hid hNl
      clear hs hok hfar hkp kk hbx hNl hT c0 c1 c2
      go_wp2_with fail
      clear hW0
      refine HL.out.mono ?_
      rintro e z1 ⟨x, rfl, hx, hk1⟩
      obtain ⟨lo, lc, rfl⟩ := hx.slice
      rw [HNL.out] at hx ⊢
      obtain ⟨c0, c1, c2⟩ := CC.out z1 hk1
      have S1 := hid (show Sm 74 z1 xb R v L from (HS.out.1.same HS.out.2.2.2.2).same hk1)
      have K1 := hid (show Kp w z1 [] from (HS.out.2.2.2.1.trans HS.out.2.2.2.2).trans hk1)
      have HX := hid hx
      have HF := hid (show ∀ (z : World) (u : Int) (Q : List Dl), To 74 z1 z xb R u Q → Sok u Q → Cs w z xb u from fun z u Q h hu => cs_to HS.out.2.2.1 K1.out h hu)
      have HO := hid HS.out.2.1
      have HR := hid (show ∀ y ∈ R, y < W0.heap.size from (HS.out.1.same HS.out.2.2.2.2).lt)
      obtain ⟨m, hm⟩ : ∃ m, L.length = m := ⟨_, rfl⟩
      rw [hm] at HX ⊢
      have HM := hid hm
      clear hx hk1 hm HS HL HNL y0 y1 y2
      by_cases k1 : k = 1
      · have kt : (k == 1) = true := by simp [k1]
        clear k1
        have HC := hid (swait z1 xb R v L t p S1.out HO.out)
        have HW := hid (HO.out.wait t p)
        by_cases hE : putE L t p = 0
        · by_cases hv0 : 0 < v
          · have hL := HO.out.no hv0
            have e1 : waB v L t p = true := by unfold waB; simp [hE, hv0]
            obtain ⟨u, hu⟩ : ∃ u, v - 1 = u := ⟨_, rfl⟩
            have e2 : waV v L t p = u := by unfold waV; rw [e1, if_pos rfl, hu]
            have hwr : IntKind.i64.wrap (v - 1) = u := by rw [← hu]; exact IntWalk.i64_in _ ⟨by omega, by have := HO.out.hi; omega⟩
            have hm0 : m = 0 := by have := HM.out; rw [hL] at this; simpa using this.symm
            have hlz : L.length = 0 := by rw [hL]; rfl
            rw [e1, e2, hE] at HC
            rw [e2] at HW
            have e3 : waL v L t p = [] := by unfold waL; rw [if_pos hv0, hL]
            rw [e3] at HC HW
            have hgu : 0 ≤ u := by omega
            clear hE e1 e2 e3 hu hv0 hL hlz
            subst hm0
            go_wp2_with fail
            refine HC.out.mono ?_
            rintro e z2 ⟨rfl, hTo⟩
            have CU := hid (HF.out z2 u _ hTo HW.out)
            have HLN := hid (show Calls Try.prog 14 #[.pointer (some ⟨xb, 0, none⟩)] z2 (fun e w' => e = .returned (.int .i64 0) ∧ w' = z2) from by
              obtain ⟨R2, s2, -, -⟩ := hTo
              exact slen z2 _ R2 u [] s2.sv)
            clear hTo c0 c1 c2 CC
            obtain ⟨cv, glo, ghi, cl⟩ := CU.out.look
            have CV := hid cv
            have CL := hid cl
            have n1 : ¬ u < 0 := by omega
            have n2 : ¬ 32767 < u := by omega
            clear cv cl
            by_cases hz : 0 < u
            · go_wp2_with (first | (go_at_call 10; refine (num_any _ _).mono ?_; rintro e wx ⟨rfl, hw⟩; obtain rfl := hw.symm) | (go_at_call 13; refine CV.out.mono ?_; rintro e wx ⟨rfl, hw⟩; obtain rfl := hw.symm) | (go_at_call 14; refine (CL.out hz).mono ?_; rintro e wx ⟨rfl, hw⟩; obtain rfl := hw.symm))
              go_roundw
              case rel => exact ⟨i + 1, u, by omega, by simp, rfl, CU⟩
              case measure => simp [intOf]; omega
            · go_wp2_with (first | (go_at_call 10; refine (num_any _ _).mono ?_; rintro e wx ⟨rfl, hw⟩; obtain rfl := hw.symm) | (go_at_call 13; refine CV.out.mono ?_; rintro e wx ⟨rfl, hw⟩; obtain rfl := hw.symm) | (go_at_call 14; refine HLN.out.mono ?_; rintro e wx ⟨rfl, hw⟩; obtain rfl := hw.symm))
              go_roundw
              case rel => exact ⟨i + 1, u, by omega, by simp, rfl, CU⟩
              case measure => simp [intOf]; omega
          · have hv1 : v = 0 := by have := HO.out.lo; omega
            subst hv1
            have e1 : waB 0 L t p = false := by unfold waB; simp
            have e2 : waV 0 L t p = 0 := by unfold waV; rw [e1]; rfl
            have e3 : waL 0 L t p = putL L t p := by unfold waL; rfl
            have hlen := put_len hE
            rw [e1, e2, e3, hE] at HC
            rw [e2, e3] at HW
            rw [HM.out] at hlen
            clear hE e1 e2 e3 hv0
            go_wp2_with fail
            refine HC.out.mono ?_
            rintro e z2 ⟨rfl, hTo⟩
            have CU := hid (HF.out z2 0 _ hTo HW.out)
            have HLN := hid (show Calls Try.prog 14 #[.pointer (some ⟨xb, 0, none⟩)] z2 (fun e w' => e = .returned (.int .i64 ((m : Int) + 1)) ∧ w' = z2) from by
              obtain ⟨R2, s2, -, -⟩ := hTo
              have := slen z2 _ R2 0 _ s2.sv
              rw [hlen] at this
              exact this)
            clear hTo c0 c1 c2 CC hlen
            have hm1 : ((m : Int) + 1 == 0) = false := by simp; omega
            by_cases hm0 : m = 0
            · subst hm0
              obtain ⟨cv, glo, ghi, cl⟩ := CU.out.look
              have CV := hid cv
              have CL := hid cl
              have n1 : ¬ (0 : Int) < 0 := by decide
              have n2 : ¬ (32767 : Int) < 0 := by decide
              clear cv cl
              have hz : ¬ (0 : Int) < 0 := by decide
              go_wp2_with (first | (go_at_call 10; refine (num_any _ _).mono ?_; rintro e wx ⟨rfl, hw⟩; obtain rfl := hw.symm) | (go_at_call 13; refine CV.out.mono ?_; rintro e wx ⟨rfl, hw⟩; obtain rfl := hw.symm) | (go_at_call 14; refine HLN.out.mono ?_; rintro e wx ⟨rfl, hw⟩; obtain rfl := hw.symm))
              go_roundw
              case rel => exact ⟨i + 1, (0 : Int), by omega, by simp, rfl, CU⟩
              case measure => simp [intOf]; omega
            · have hm2 : ((m : Int) == 0) = false := by simp; omega
              obtain ⟨cv, glo, ghi, cl⟩ := CU.out.look
              have CV := hid cv
              have CL := hid cl
              have n1 : ¬ (0 : Int) < 0 := by decide
              have n2 : ¬ (32767 : Int) < 0 := by decide
              clear cv cl
              have hz : ¬ (0 : Int) < 0 := by decide
              go_wp2_with (first | (go_at_call 10; refine (num_any _ _).mono ?_; rintro e wx ⟨rfl, hw⟩; obtain rfl := hw.symm) | (go_at_call 13; refine CV.out.mono ?_; rintro e wx ⟨rfl, hw⟩; obtain rfl := hw.symm) | (go_at_call 14; refine HLN.out.mono ?_; rintro e wx ⟨rfl, hw⟩; obtain rfl := hw.symm))
              go_roundw
              case rel => exact ⟨i + 1, (0 : Int), by omega, by simp, rfl, CU⟩
              case measure => simp [intOf]; omega
        · have e1 : waB v L t p = false := by unfold waB; simp [hE]
          have e2 : waV v L t p = v := by unfold waV; rw [e1]; rfl
          have e3 : waL v L t p = L := by unfold waL; rw [put_same hE, ite_self]
          rw [e1, e2, e3] at HC
          obtain ⟨E, hEE⟩ : ∃ E, putE L t p = E := ⟨_, rfl⟩
          rw [hEE] at HC hE
          have he : (E == 0) = false := by simp [hE]
          clear hE hEE e1 e2 e3 HW
          go_wp2_with fail
          refine HC.out.mono ?_
          rintro e z2 ⟨rfl, hTo⟩
          have CU := hid (HF.out z2 v _ hTo HO.out)
          clear hTo c0 c1 c2 CC
          obtain ⟨cv, glo, ghi, cl⟩ := CU.out.look
          have CV := hid cv
          have CL := hid cl
          have n1 : ¬ v < 0 := by omega
          have n2 : ¬ 32767 < v := by omega
          clear cv cl
          by_cases hz : 0 < v
          · go_wp2_with (first | (go_at_call 10; refine (num_any _ _).mono ?_; rintro e wx ⟨rfl, hw⟩; obtain rfl := hw.symm) | (go_at_call 13; refine CV.out.mono ?_; rintro e wx ⟨rfl, hw⟩; obtain rfl := hw.symm) | (go_at_call 14; refine (CL.out hz).mono ?_; rintro e wx ⟨rfl, hw⟩; obtain rfl := hw.symm))
            go_roundw
            case rel => exact ⟨i + 1, v, by omega, by simp, rfl, CU⟩
            case measure => simp [intOf]; omega
          · go_wp2_with (first | (go_at_call 10; refine (num_any _ _).mono ?_; rintro e wx ⟨rfl, hw⟩; obtain rfl := hw.symm) | (go_at_call 13; refine CV.out.mono ?_; rintro e wx ⟨rfl, hw⟩; obtain rfl := hw.symm))
            go_roundw
            case rel => exact ⟨i + 1, v, by omega, by simp, rfl, CU⟩
            case measure => simp [intOf]; omega
      by_cases k2 : k = 2
      · have kt : (k == 2) = true := by simp [k2]
        have kf1 : (k == 1) = false := by simp [k1]
        clear k1 k2
        have HC := hid (stry z1 xb R v L S1.out HO.out)
        have HW := hid HO.out.try
        by_cases hv0 : 0 < v
        · obtain ⟨u, hu⟩ : ∃ u, v - 1 = u := ⟨_, rfl⟩
          have hwr : IntKind.i64.wrap (v - 1) = u := by rw [← hu]; exact IntWalk.i64_in _ ⟨by omega, by have := HO.out.hi; omega⟩
          rw [if_pos hv0, hu] at HC HW
          rw [decide_eq_true hv0] at HC
          clear hu hv0
          go_wp2_with fail
          refine HC.out.mono ?_
          rintro e z2 ⟨rfl, hTo⟩
          have CU := hid (HF.out z2 u _ hTo HW.out)
          clear hTo c0 c1 c2 CC
          obtain ⟨cv, glo, ghi, cl⟩ := CU.out.look
          have CV := hid cv
          have CL := hid cl
          have n1 : ¬ u < 0 := by omega
          have n2 : ¬ 32767 < u := by omega
          clear cv cl
          by_cases hz : 0 < u
          · go_wp2_with (first | (go_at_call 10; refine (num_any _ _).mono ?_; rintro e wx ⟨rfl, hw⟩; obtain rfl := hw.symm) | (go_at_call 13; refine CV.out.mono ?_; rintro e wx ⟨rfl, hw⟩; obtain rfl := hw.symm) | (go_at_call 14; refine (CL.out hz).mono ?_; rintro e wx ⟨rfl, hw⟩; obtain rfl := hw.symm))
            go_roundw
            case rel => exact ⟨i + 1, u, by omega, by simp, rfl, CU⟩
            case measure => simp [intOf]; omega
          · go_wp2_with (first | (go_at_call 10; refine (num_any _ _).mono ?_; rintro e wx ⟨rfl, hw⟩; obtain rfl := hw.symm) | (go_at_call 13; refine CV.out.mono ?_; rintro e wx ⟨rfl, hw⟩; obtain rfl := hw.symm))
            go_roundw
            case rel => exact ⟨i + 1, u, by omega, by simp, rfl, CU⟩
            case measure => simp [intOf]; omega
        · rw [if_neg hv0] at HC HW
          rw [decide_eq_false hv0] at HC
          clear hv0
          go_wp2_with fail
          refine HC.out.mono ?_
          rintro e z2 ⟨rfl, hTo⟩
          have CU := hid (HF.out z2 v _ hTo HW.out)
          clear hTo c0 c1 c2 CC
          obtain ⟨cv, glo, ghi, cl⟩ := CU.out.look
          have CV := hid cv
          have CL := hid cl
          have n1 : ¬ v < 0 := by omega
          have n2 : ¬ 32767 < v := by omega
          clear cv cl
          by_cases hz : 0 < v
          · go_wp2_with (first | (go_at_call 10; refine (num_any _ _).mono ?_; rintro e wx ⟨rfl, hw⟩; obtain rfl := hw.symm) | (go_at_call 13; refine CV.out.mono ?_; rintro e wx ⟨rfl, hw⟩; obtain rfl := hw.symm) | (go_at_call 14; refine (CL.out hz).mono ?_; rintro e wx ⟨rfl, hw⟩; obtain rfl := hw.symm))
            go_roundw
            case rel => exact ⟨i + 1, v, by omega, by simp, rfl, CU⟩
            case measure => simp [intOf]; omega
          · go_wp2_with (first | (go_at_call 10; refine (num_any _ _).mono ?_; rintro e wx ⟨rfl, hw⟩; obtain rfl := hw.symm) | (go_at_call 13; refine CV.out.mono ?_; rintro e wx ⟨rfl, hw⟩; obtain rfl := hw.symm))
            go_roundw
            case rel => exact ⟨i + 1, v, by omega, by simp, rfl, CU⟩
            case measure => simp [intOf]; omega
      by_cases k3 : k = 3
      · have kt : (k == 3) = true := by simp [k3]
        have kf1 : (k == 1) = false := by simp [k1]
        have kf2 : (k == 2) = false := by simp [k2]
        clear k1 k2 k3
        have HC := hid (spost z1 xb R v L S1.out HO.out)
        have HW := hid (HO.out.post S1.out.ok)
        cases hB : fstB L
        · have hL := fst_no S1.out.ok hB
          have e1 : poT L = -1 := by unfold poT; rw [hB]; rfl
          have hm0 : m = 0 := by have := HM.out; rw [hL] at this; simpa using this.symm
          by_cases h7 : v = 32767
          · have e2 : poE v L = 5 := by unfold poE; rw [hB, if_neg (by simp), if_pos h7]
            have e3 : poV v L = v := by unfold poV; rw [hB, if_neg (by simp), if_pos h7]
            rw [e1, e2, e3] at HC
            rw [e3] at HW
            clear e1 e2 e3 hB hL h7
            subst hm0
            go_wp2_with fail
            refine HC.out.mono ?_
            rintro e z2 ⟨rfl, hTo⟩
            have CU := hid (HF.out z2 v _ hTo HW.out)
            clear hTo c0 c1 c2 CC
            obtain ⟨cv, glo, ghi, cl⟩ := CU.out.look
            have CV := hid cv
            have CL := hid cl
            have n1 : ¬ v < 0 := by omega
            have n2 : ¬ 32767 < v := by omega
            clear cv cl
            by_cases hz : 0 < v
            · go_wp2_with (first | (go_at_call 10; refine (num_any _ _).mono ?_; rintro e wx ⟨rfl, hw⟩; obtain rfl := hw.symm) | (go_at_call 13; refine CV.out.mono ?_; rintro e wx ⟨rfl, hw⟩; obtain rfl := hw.symm) | (go_at_call 14; refine (CL.out hz).mono ?_; rintro e wx ⟨rfl, hw⟩; obtain rfl := hw.symm))
              go_roundw
              case rel => exact ⟨i + 1, v, by omega, by simp, rfl, CU⟩
              case measure => simp [intOf]; omega
            · go_wp2_with (first | (go_at_call 10; refine (num_any _ _).mono ?_; rintro e wx ⟨rfl, hw⟩; obtain rfl := hw.symm) | (go_at_call 13; refine CV.out.mono ?_; rintro e wx ⟨rfl, hw⟩; obtain rfl := hw.symm))
              go_roundw
              case rel => exact ⟨i + 1, v, by omega, by simp, rfl, CU⟩
              case measure => simp [intOf]; omega
          · have e2 : poE v L = 0 := by unfold poE; rw [hB, if_neg (by simp), if_neg h7]
            obtain ⟨u, hu⟩ : ∃ u, v + 1 = u := ⟨_, rfl⟩
            have hwr : IntKind.i64.wrap (v + 1) = u := by rw [← hu]; exact IntWalk.i64_in _ ⟨by have := HO.out.lo; omega, by have := HO.out.hi; omega⟩
            have e3 : poV v L = u := by unfold poV; rw [hB, if_neg (by simp), if_neg h7, hu]
            rw [e1, e2, e3] at HC
            rw [e3] at HW
            clear e1 e2 e3 hB hL h7 hu
            subst hm0
            go_wp2_with fail
            refine HC.out.mono ?_
            rintro e z2 ⟨rfl, hTo⟩
            have CU := hid (HF.out z2 u _ hTo HW.out)
            clear hTo c0 c1 c2 CC
            obtain ⟨cv, glo, ghi, cl⟩ := CU.out.look
            have CV := hid cv
            have CL := hid cl
            have n1 : ¬ u < 0 := by omega
            have n2 : ¬ 32767 < u := by omega
            clear cv cl
            by_cases hz : 0 < u
            · go_wp2_with (first | (go_at_call 10; refine (num_any _ _).mono ?_; rintro e wx ⟨rfl, hw⟩; obtain rfl := hw.symm) | (go_at_call 13; refine CV.out.mono ?_; rintro e wx ⟨rfl, hw⟩; obtain rfl := hw.symm) | (go_at_call 14; refine (CL.out hz).mono ?_; rintro e wx ⟨rfl, hw⟩; obtain rfl := hw.symm))
              go_roundw
              case rel => exact ⟨i + 1, u, by omega, by simp, rfl, CU⟩
              case measure => simp [intOf]; omega
            · go_wp2_with (first | (go_at_call 10; refine (num_any _ _).mono ?_; rintro e wx ⟨rfl, hw⟩; obtain rfl := hw.symm) | (go_at_call 13; refine CV.out.mono ?_; rintro e wx ⟨rfl, hw⟩; obtain rfl := hw.symm))
              go_roundw
              case rel => exact ⟨i + 1, u, by omega, by simp, rfl, CU⟩
              case measure => simp [intOf]; omega
        · obtain ⟨g1, g2, g3⟩ := head_first S1.out.ok hB
          obtain ⟨F, hF⟩ : ∃ F, fstT L = F := ⟨_, rfl⟩
          have e1 : poT L = F := by unfold poT; rw [hB, if_pos rfl, hF]
          have e2 : poE v L = 0 := by unfold poE; rw [hB]; rfl
          have e3 : poV v L = v := by unfold poV; rw [hB]; rfl
          rw [e1, e2, e3] at HC
          rw [e3] at HW
          rw [hF] at g2 g3
          obtain ⟨g, rfl, hc, -⟩ := HX.out.at g1 g2
          have hgR : g ∉ R := fun hm => by
            have h5 : z1.heap.size ≥ 0 := Nat.zero_le _
            have h6 : W0.heap.size ≤ g := (owns_block HX.out rfl).1
            have := HR.out g hm
            omega
          have hmp : (0 : Int) < m := by
            have h1 := g1
            rw [List.length_map, ord_len S1.out.ok, HM.out] at h1
            omega
          have hF0 : ¬ F < 0 := by omega
          have HC0 := hid hc
          have HG := hid hgR
          clear e1 e2 e3 hB g1 g2 g3 hF hc hgR
          go_wp2_with fail
          refine HC.out.mono ?_
          rintro e z2 ⟨rfl, hTo⟩
          have CU := hid (HF.out z2 v _ hTo HW.out)
          have d0 : z2.cell? ⟨g, 0, none⟩ = some (.int .i64 F) := by
            obtain ⟨_, _, _, kR⟩ := hTo
            exact kR.cell HC0.out HG.out
          clear hTo c0 c1 c2 CC
          obtain ⟨cv, glo, ghi, cl⟩ := CU.out.look
          have CV := hid cv
          have CL := hid cl
          have n1 : ¬ v < 0 := by omega
          have n2 : ¬ 32767 < v := by omega
          clear cv cl
          by_cases hz : 0 < v
          · go_wp2_with (first | (go_at_call 10; refine (num_any _ _).mono ?_; rintro e wx ⟨rfl, hw⟩; obtain rfl := hw.symm) | (go_at_call 13; refine CV.out.mono ?_; rintro e wx ⟨rfl, hw⟩; obtain rfl := hw.symm) | (go_at_call 14; refine (CL.out hz).mono ?_; rintro e wx ⟨rfl, hw⟩; obtain rfl := hw.symm))
            go_roundw
            case rel => exact ⟨i + 1, v, by omega, by simp, rfl, CU⟩
            case measure => simp [intOf]; omega
          · go_wp2_with (first | (go_at_call 10; refine (num_any _ _).mono ?_; rintro e wx ⟨rfl, hw⟩; obtain rfl := hw.symm) | (go_at_call 13; refine CV.out.mono ?_; rintro e wx ⟨rfl, hw⟩; obtain rfl := hw.symm))
            go_roundw
            case rel => exact ⟨i + 1, v, by omega, by simp, rfl, CU⟩
            case measure => simp [intOf]; omega
      by_cases k4 : k = 4
      · have kt : (k == 4) = true := by simp [k4]
        have kf1 : (k == 1) = false := by simp [k1]
        have kf2 : (k == 2) = false := by simp [k2]
        have kf3 : (k == 3) = false := by simp [k3]
        clear k1 k2 k3 k4
        go_wp2_with fail
        refine (sleave z1 xb R v L t S1.out).mono ?_
        rintro e z2 ⟨rfl, hTo⟩
        have CU := hid (HF.out z2 v _ hTo (HO.out.leave t))
        clear hTo c0 c1 c2 CC
        obtain ⟨cv, glo, ghi, cl⟩ := CU.out.look
        have CV := hid cv
        have CL := hid cl
        have n1 : ¬ v < 0 := by omega
        have n2 : ¬ 32767 < v := by omega
        clear cv cl
        by_cases hz : 0 < v
        · go_wp2_with (first | (go_at_call 10; refine (num_any _ _).mono ?_; rintro e wx ⟨rfl, hw⟩; obtain rfl := hw.symm) | (go_at_call 13; refine CV.out.mono ?_; rintro e wx ⟨rfl, hw⟩; obtain rfl := hw.symm) | (go_at_call 14; refine (CL.out hz).mono ?_; rintro e wx ⟨rfl, hw⟩; obtain rfl := hw.symm))
          go_roundw
          case rel => exact ⟨i + 1, v, by omega, by simp, rfl, CU⟩
          case measure => simp [intOf]; omega
        · go_wp2_with (first | (go_at_call 10; refine (num_any _ _).mono ?_; rintro e wx ⟨rfl, hw⟩; obtain rfl := hw.symm) | (go_at_call 13; refine CV.out.mono ?_; rintro e wx ⟨rfl, hw⟩; obtain rfl := hw.symm))
          go_roundw
          case rel => exact ⟨i + 1, v, by omega, by simp, rfl, CU⟩
          case measure => simp [intOf]; omega
      by_cases k5 : k = 5
      · have kt : (k == 5) = true := by simp [k5]
        have kf1 : (k == 1) = false := by simp [k1]
        have kf2 : (k == 2) = false := by simp [k2]
        have kf3 : (k == 3) = false := by simp [k3]
        have kf4 : (k == 4) = false := by simp [k4]
        clear k1 k2 k3 k4 k5
        go_wp2_with fail
        refine (schange z1 xb R v L t p S1.out).mono ?_
        rintro e z2 ⟨rfl, hTo⟩
        have CU := hid (HF.out z2 v _ hTo (HO.out.change t p))
        clear hTo c0 c1 c2 CC
        obtain ⟨cv, glo, ghi, cl⟩ := CU.out.look
        have CV := hid cv
        have CL := hid cl
        have n1 : ¬ v < 0 := by omega
        have n2 : ¬ 32767 < v := by omega
        clear cv cl
        by_cases hz : 0 < v
        · go_wp2_with (first | (go_at_call 10; refine (num_any _ _).mono ?_; rintro e wx ⟨rfl, hw⟩; obtain rfl := hw.symm) | (go_at_call 13; refine CV.out.mono ?_; rintro e wx ⟨rfl, hw⟩; obtain rfl := hw.symm) | (go_at_call 14; refine (CL.out hz).mono ?_; rintro e wx ⟨rfl, hw⟩; obtain rfl := hw.symm))
          go_roundw
          case rel => exact ⟨i + 1, v, by omega, by simp, rfl, CU⟩
          case measure => simp [intOf]; omega
        · go_wp2_with (first | (go_at_call 10; refine (num_any _ _).mono ?_; rintro e wx ⟨rfl, hw⟩; obtain rfl := hw.symm) | (go_at_call 13; refine CV.out.mono ?_; rintro e wx ⟨rfl, hw⟩; obtain rfl := hw.symm))
          go_roundw
          case rel => exact ⟨i + 1, v, by omega, by simp, rfl, CU⟩
          case measure => simp [intOf]; omega
      · have kf5 : (k == 5) = false := by simp [k5]
        have kf1 : (k == 1) = false := by simp [k1]
        have kf2 : (k == 2) = false := by simp [k2]
        have kf3 : (k == 3) = false := by simp [k3]
        have kf4 : (k == 4) = false := by simp [k4]
        clear k1 k2 k3 k4 k5
        have CU := hid (HF.out z1 v L (To.stay S1.out (Kp.refl _ _)) HO.out)
        obtain ⟨cv, glo, ghi, cl⟩ := CU.out.look
        have CV := hid cv
        have CL := hid cl
        have n1 : ¬ v < 0 := by omega
        have n2 : ¬ 32767 < v := by omega
        clear cv cl
        by_cases hz : 0 < v
        · go_wp2_with (first | (go_at_call 10; refine (num_any _ _).mono ?_; rintro e wx ⟨rfl, hw⟩; obtain rfl := hw.symm) | (go_at_call 13; refine CV.out.mono ?_; rintro e wx ⟨rfl, hw⟩; obtain rfl := hw.symm) | (go_at_call 14; refine (CL.out hz).mono ?_; rintro e wx ⟨rfl, hw⟩; obtain rfl := hw.symm))
          go_roundw
          case rel => exact ⟨i + 1, v, by omega, by simp, rfl, CU⟩
          case measure => simp [intOf]; omega
        · go_wp2_with (first | (go_at_call 10; refine (num_any _ _).mono ?_; rintro e wx ⟨rfl, hw⟩; obtain rfl := hw.symm) | (go_at_call 13; refine CV.out.mono ?_; rintro e wx ⟨rfl, hw⟩; obtain rfl := hw.symm))
          go_roundw
          case rel => exact ⟨i + 1, v, by omega, by simp, rfl, CU⟩
          case measure => simp [intOf]; omega
    · have hx : ¬ (i : Int) < N ∨ ((i : Int) < N ∧ ¬ (i : Int) < 200) := by omega
      clear hin
      have K6 := hid hT.out.kp
      clear hT
      rcases hx with h1 | ⟨h1, h2⟩
      all_goals go_wp2
      all_goals go_ret
      all_goals exact ⟨rfl, K6.out⟩
set_option maxRecDepth 100000 in
theorem counts_no (w : World) (a : Int) (V : Value) (ha : a < 0 ∨ 32767 < a) : Calls Try.prog 6 #[.int .i64 a, V] w fun e w' => e = .returned (.bool true) ∧ Kp w w' [] := by
  have H1 := hid (fun w1 => snew_no w1 a ha)
  clear ha
  go_enter Try.func6, Try.ntmps6
  go_wp2_with fail
  refine (known_any w).mono ?_
  rintro e w1 ⟨rfl, k1⟩
  have K1 := hid k1
  clear k1
  go_wp2_with fail
  refine (H1.out w1).mono ?_
  rintro e wx ⟨rfl, hw⟩; obtain rfl := hw.symm
  go_wp2_with (go_at_call 10; refine (num_any _ _).mono ?_; rintro e wx ⟨rfl, hw⟩; obtain rfl := hw.symm)
  go_ret
  exact ⟨rfl, K1.out⟩
theorem counts_walk (w : World) (a : Int) (V : Value) (N : Nat) (S : Nat → Sp) (hV : Sc w V N S) : Calls Try.prog 6 #[.int .i64 a, V] w fun e w' => e = .returned (.bool true) ∧ Kp w w' [] := by
  by_cases h : 0 ≤ a ∧ a ≤ 32767
  · exact counts_yes w a V N S hV h.1 h.2
  · exact counts_no w a V (by omega)
end Go.Proofs.Ytpkaeanagdhmiaa
