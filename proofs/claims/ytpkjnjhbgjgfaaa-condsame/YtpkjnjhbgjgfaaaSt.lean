/- stands. -/
import Derived.Test.YtpkjnjhbgjgfaaaPa
namespace Go.Proofs.Ytpkjnjhbgjgfaaa
open Go.RowKit Go.Shelf Go.Lib Go.Sort Go.Maps
attribute [local go_sem] Oper.semAt_some

theorem neq_bool (B : Bool) (W : World) : (binOp .neq 4 (.bool B) (.bool B)).run Try.prog W = .ok (.bool false) W := by cases B <;> kernel_rfl
set_option maxRecDepth 100000 in
set_option maxHeartbeats 4000000 in
theorem stands_any (w : World) (cb rb : Nat) (R : List Nat) (m : Int) (L : List Dl) (h : Pa w cb rb R m L) : Calls Try.prog 10 #[.pointer (some ⟨cb, 0, none⟩), .pointer (some ⟨rb, 0, none⟩)] w fun e w' => e = .returned (.bool true) ∧ Kp w w' [] := by
  have hok := h.ok
  obtain ⟨R1, q, -, hs, hr, -⟩ := h
  obtain ⟨ao, cap, hc⟩ := hr.cells
  have HP := hid (cmutex w _ R1 m L hs.cv)
  have HQ := hid (fun (z : World) (hk : Kp w z []) => rmutex z rb q m L (hr.same hk))
  have CC := hid (fun (z : World) (hk : Kp w z []) => And.intro (hc z hk).1 (hc z hk).2.2.1)
  have H1 := hid (fun (z : World) (hk : Kp w z []) (t : Int) => rprio_any z q L t (hr.2.keep hk) hok)
  have H2 := hid (fun (z : World) (hk : Kp w z []) (t : Int) (ht : i64 t) => chas z _ R1 m L t (hs.same hk).cv ht)
  have C2 := hid (fun (z : World) (hk : Kp w z []) => clen z _ R1 m L (hs.same hk).cv)
  have C3 := hid (fun (z : World) (hk : Kp w z []) => clist z _ R1 m L (hs.same hk).cv)
  have C4 := hid (fun (z : World) (hk : Kp w z []) => rlist_any z q L (hr.2.keep hk) hok)
  have hlen : ((ordL L).map (·.1)).length ≤ 100000 := by rw [List.length_map, ord_len hok]; have := hok.len; omega
  generalize (ordL L).map (·.1) = OL at C3 C4 hlen
  generalize muT m L = mu at HP HQ
  generalize muB L = mb at HP HQ
  generalize L.length = N at CC C2
  clear hs hr hok hc
  have hbb := fun w => run_equal_bool (P := Try.prog) w 4 mb mb Try.underlying4
  go_enter Try.func10, Try.ntmps10
  go_wp2_with fail
  refine HP.out.mono ?_
  rintro e w1 ⟨rfl, hk⟩
  have K1 := hid hk
  clear hk
  go_wp2_with fail
  refine (HQ.out w1 K1.out).mono ?_
  rintro e w2 ⟨rfl, hw⟩; obtain rfl := hw.symm
  go_wp2
  go_loopw [9] (fun v W => ∃ t : Int, -1 ≤ t ∧ t ≤ 17 ∧ v = .int .i64 t ∧ Hid (Kp w W [])) (fun v _ => (17 - intOf v).toNat)
  case atStart => exact ⟨-1, by decide, by decide, rfl, K1.out⟩
  case round =>
    obtain ⟨t, t0, t1, rfl, hK⟩ := hrel
    by_cases ht : t ≤ 16
    · have hwr : IntKind.i64.wrap (t + 1) = t + 1 := IntWalk.i64_in _ ⟨by omega, by omega⟩
      have h64 : i64 t := ⟨by omega, by omega⟩
      have d0 := (CC.out wr hK.out).1
      have P1 := hid (H1.out wr hK.out t)
      have P2 := hid (H2.out wr hK.out t h64)
      generalize hasP L t = B at P1 P2
      generalize getP L t = G at P1
      clear h64
      have hbB := neq_bool B
      go_wp2_with fail
      refine P1.out.mono ?_
      rintro e w3 ⟨rfl, hw⟩; obtain rfl := hw.symm
      go_wp2_with fail
      refine P2.out.mono ?_
      rintro e w4 ⟨rfl, hk⟩
      have K4 := hid (hK.out.trans hk)
      clear hk d0
      go_wp2
      go_roundw
      case rel => exact ⟨t + 1, by omega, by omega, rfl, K4.out⟩
      case measure => simp [intOf]; omega
    · have d0 := CC.out wr hK.out
      have d1 := d0.1
      have d2 := d0.2
      have K0 := hid hK.out
      clear hK d0
      go_wp2_with fail
      go_region_held_law (fun w1 => w1.cell? ⟨rb, 0, none⟩ = some (.pointer (some ⟨q, 0, none⟩)) ∧ w1.cell? ⟨q, 0, none⟩ = some (.slice ao N cap))
        (first
          | exact CC.out _ (K0.out.trans (Kp.drew _ _))
          | exact CC.out _ ((K0.out.trans (Kp.drew _ _)).trans hK2)
          | exact CC.out _ (((K0.out.trans (Kp.drew _ _)).trans hK2).trans hK3)
          | exact CC.out _ ((((K0.out.trans (Kp.drew _ _)).trans hK2).trans hK3).trans hK4)
          | exact CC.out _ (((((K0.out.trans (Kp.drew _ _)).trans hK2).trans hK3).trans hK4).trans hK5))
        (first
          | (go_at_call 18; refine (C2.out _ (K0.out.trans (Kp.drew _ _))).mono ?_; rintro e z2 ⟨rfl, hK2⟩)
          | (go_at_call 14; refine (C3.out _ ((K0.out.trans (Kp.drew _ _)).trans hK2)).mono ?_; rintro e z3 ⟨x, rfl, hX, hK3⟩)
          | (go_at_call 35; refine (C4.out _ (((K0.out.trans (Kp.drew _ _)).trans hK2).trans hK3)).mono ?_; rintro e z4 ⟨y, rfl, hY, hK4⟩)
          | (go_at_call 19; refine (ints_yes _ _ _ x y OL (hX.keep hK4) hY hlen).mono ?_; rintro e z5 ⟨rfl, hK5⟩)
          | fail)
      have K9 := hid (((((K0.out.trans (Kp.drew _ _)).trans hK2).trans hK3).trans hK4).trans hK5)
      clear hX hY hK2 hK3 hK4 hK5 d1 d2
      go_wp2
      go_ret
      exact ⟨rfl, K9.out⟩
end Go.Proofs.Ytpkjnjhbgjgfaaa
