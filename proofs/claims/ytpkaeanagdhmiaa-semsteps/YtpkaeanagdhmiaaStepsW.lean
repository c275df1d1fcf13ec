/- SemSteps' walk. -/
import Derived.Test.YtpkaeanagdhmiaaOs
import Derived.Test.YtpkaeanagdhmiaaArgs
namespace Go.Proofs.Ytpkaeanagdhmiaa
open Go.RowKit Go.Shelf Go.Lib Go.Sort Go.Maps
attribute [local go_sem] Oper.semAt_some

/-- What the round looks at. -/
theorem Oss.open {w0 W : World} {sb rb : Nat} (h : Oss w0 W sb rb) : ∃ R1 q v L ao cap, Sm 74 W sb R1 v L ∧ Rf W q L ∧ okL L ∧ W.cell? ⟨rb, 0, none⟩ = some (.int .i64 v) ∧ W.cell? ⟨rb, 1, none⟩ = some (.pointer (some ⟨q, 0, none⟩)) ∧ W.cell? ⟨q, 0, none⟩ = some (.slice ao L.length cap) := by
  obtain ⟨R, v, L, ⟨R1, q, -, h1, h2, -⟩, -⟩ := h
  obtain ⟨x, hb, hd⟩ := h2.2.2
  obtain ⟨ao, cap, rfl⟩ := hd.slice
  exact ⟨R1, q, v, L, ao, cap, h1, h2.2.2, h1.ok, cell_two0 h2.2.1, cell_two1 h2.2.1, cell_one hb⟩
set_option maxRecDepth 100000 in
set_option maxHeartbeats 4000000 in
theorem steps_walk_no (w : World) (a : Int) (V : Value) (ha : a < 0 ∨ 32767 < a) : Calls Try.prog 3 #[.int .i64 a, V] w fun e w' => e = .returned (.bool true) ∧ Kp w w' [] := by
  have H1 := hid (snew_no w a ha)
  have H2 := hid (rsnew_no w a ha)
  clear ha
  go_enter Try.func3, Try.ntmps3
  go_wp2_with fail
  refine H1.out.mono ?_
  rintro e wx ⟨rfl, hw⟩; obtain rfl := hw.symm
  go_wp2_with fail
  refine H2.out.mono ?_
  rintro e wx ⟨rfl, hw⟩; obtain rfl := hw.symm
  go_wp2_with (go_at_call 10; refine (num_any _ _).mono ?_; rintro e wx ⟨rfl, hw⟩; obtain rfl := hw.symm)
  refine (known_any _).mono ?_
  rintro e w7 ⟨rfl, k7⟩
  have K7 := hid k7
  clear k7
  go_wp2
  go_ret
  exact ⟨rfl, K7.out⟩
set_option maxRecDepth 100000 in
set_option maxHeartbeats 4000000 in
theorem steps_walk_yes (w : World) (a : Int) (V : Value) (N : Nat) (S : Nat → Sp) (hV : Sc w V N S) (h0 : 0 ≤ a) (h1 : a ≤ 32767) : Calls Try.prog 3 #[.int .i64 a, V] w fun e w' => e = .returned (.bool true) ∧ Kp w w' [] := by
  obtain ⟨so, sc, rfl⟩ := hV.shape
  have HV := hid hV
  have H1 := hid (snew w a h0 h1)
  have H2 := hid (fun w1 => rsnew w1 a h0 h1)
  have HOK := hid (show Sok a [] from ⟨h0, h1, fun _ => rfl⟩)
  clear hV h0 h1
  go_enter Try.func3, Try.ntmps3
  go_wp2_with fail
  refine H1.out.mono ?_
  rintro e w1 ⟨xb, R1, rfl, hx, hx1, hx2⟩
  have X1 := hid (And.intro hx (And.intro hx1 hx2))
  clear hx hx1 hx2
  go_wp2_with fail
  refine (H2.out w1).mono ?_
  rintro e w2 ⟨r, rfl, q, hr, hr1, hr2, hr3⟩
  have D0 := hid (Oss.new X1.out.1 X1.out.2.1 X1.out.2.2 hr hr1 hr2 hr3 HOK.out)
  clear hr hr1 hr2 hr3 X1
  go_wp2_with (go_at_call 10; refine (num_any _ _).mono ?_; rintro e wx ⟨rfl, hw⟩; obtain rfl := hw.symm)
  go_loopw [5, 7, 8] (fun vx vp vi W => ∃ (i b : Nat), i ≤ 200 ∧ vi = .int .i64 i ∧ vx = .pointer (some ⟨b, 0, none⟩) ∧ vp = .pointer (some ⟨r, 0, none⟩) ∧ Hid (Oss w W b r)) (fun _ _ vi _ => 200 - (intOf vi).toNat)
  case atStart => exact ⟨0, xb, by omega, rfl, rfl, rfl, D0.out⟩
  case round =>
    obtain ⟨i, b, hi, rfl, rfl, rfl, hT⟩ := hrel
    clear D0
    by_cases hin : i < N ∧ i < 200
    · have h1 : (i : Int) < N := by omega
      have h2 : (i : Int) < 200 := by omega
      obtain ⟨sb, off, rfl, y0, y1, y2⟩ := (HV.out.keep hT.out.kp).at hin.1
      go_wp2_with fail
      refine (hT.out.step (S i).k (S i).t (S i).p).mono ?_
      rintro e W3 ⟨b', rfl, hT2⟩
      have T2 := hid hT2
      clear hT y0 y1 y2
      obtain ⟨R1, q, v, L, ao, cap, hs, hf, hok, d0, d1, d2⟩ := hT2.open
      have CC := hid (fun (z : World) (hk : Kp W3 z []) => And.intro (hk.cell d0 (by simp)) (And.intro (hk.cell d1 (by simp)) (hk.cell d2 (by simp))))
      have C1 := hid (fun (z : World) (hk : Kp W3 z []) => to_kp (sval z _ R1 v L (hs.same hk).sv))
      have C2 := hid (fun (z : World) (hk : Kp W3 z []) => to_kp (slen z _ R1 v L (hs.same hk).sv))
      have C3 := hid (fun (z : World) (hk : Kp W3 z []) => slist z _ R1 v L (hs.same hk).sv)
      have C4 := hid (fun (z : World) (hk : Kp W3 z []) => rlist_any z q L (hf.keep hk) hok)
      have hlen : ((ordL L).map (·.1)).length ≤ 100000 := by rw [List.length_map, ord_len hok]; have := hok.len; omega
      generalize (ordL L).map (·.1) = OL at C3 C4 hlen
      generalize L.length = M at d2 CC C2
      clear hT2 hs hf hok
      go_wp2_with fail
      go_region_held_law (fun w1 => w1.cell? ⟨r, 0, none⟩ = some (.int .i64 v) ∧ w1.cell? ⟨r, 1, none⟩ = some (.pointer (some ⟨q, 0, none⟩)) ∧ w1.cell? ⟨q, 0, none⟩ = some (.slice ao M cap))
        (first
          | exact CC.out _ (Kp.drew _ _)
          | exact CC.out _ ((Kp.drew _ _).trans hK1)
          | exact CC.out _ (((Kp.drew _ _).trans hK1).trans hK2)
          | exact CC.out _ ((((Kp.drew _ _).trans hK1).trans hK2).trans hK3)
          | exact CC.out _ (((((Kp.drew _ _).trans hK1).trans hK2).trans hK3).trans hK4)
          | exact CC.out _ ((((((Kp.drew _ _).trans hK1).trans hK2).trans hK3).trans hK4).trans hK5))
        (first
          | (go_at_call 13; refine (C1.out _ (Kp.drew _ _)).mono ?_; rintro e z1 ⟨rfl, hK1⟩)
          | (go_at_call 14; refine (C2.out _ ((Kp.drew _ _).trans hK1)).mono ?_; rintro e z2 ⟨rfl, hK2⟩)
          | (go_at_call 16; refine (C3.out _ (((Kp.drew _ _).trans hK1).trans hK2)).mono ?_; rintro e z3 ⟨x, rfl, hX, hK3⟩)
          | (go_at_call 17; refine (C4.out _ ((((Kp.drew _ _).trans hK1).trans hK2).trans hK3)).mono ?_; rintro e z4 ⟨y, rfl, hY, hK4⟩)
          | (go_at_call 15; refine (ints_yes _ _ _ x y OL (hX.keep hK4) hY hlen).mono ?_; rintro e z5 ⟨rfl, hK5⟩)
          | fail)
      have T3 := hid (T2.out.same ((((((Kp.drew _ _).trans hK1).trans hK2).trans hK3).trans hK4).trans hK5))
      clear hX hY hK1 hK2 hK3 hK4 hK5 T2 CC C1 C2 C3 C4 d0 d1 d2
      go_wp2
      go_roundw
      case rel => exact ⟨i + 1, b', by omega, by simp, rfl, rfl, T3.out⟩
      case measure => simp [intOf]; omega
    · have hx : ¬ (i : Int) < N ∨ ((i : Int) < N ∧ ¬ (i : Int) < 200) := by omega
      clear hin
      have K6 := hid hT.out.kp
      clear hT
      rcases hx with h1 | ⟨h1, h2⟩
      all_goals go_wp2_with fail
      all_goals
        refine (known_any _).mono ?_
        rintro e W7 ⟨rfl, k7⟩
        have K7 := hid (K6.out.trans k7)
        clear k7 K6
        go_wp2
        go_ret
        exact ⟨rfl, K7.out⟩
theorem steps_walk (w : World) (a : Int) (V : Value) (N : Nat) (S : Nat → Sp) (hV : Sc w V N S) : Calls Try.prog 3 #[.int .i64 a, V] w fun e w' => e = .returned (.bool true) ∧ Kp w w' [] := by
  by_cases h : 0 ≤ a ∧ a ≤ 32767
  · exact steps_walk_yes w a V N S hV h.1 h.2
  · exact steps_walk_no w a V (by omega)
end Go.Proofs.Ytpkaeanagdhmiaa
