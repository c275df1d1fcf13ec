/- Send, where it is not refused. -/
import Derived.BigQuiet
import Derived.Deep.RegionHeldLaw
import Derived.Deep.RegionWith
import Derived.Test.YtllkopekfanfaaaSnJ
namespace Go.Proofs.Ytllkopekfanfaaa
open Go.RowKit Go.Shelf Go.Lib Go.Sort Go.Maps
attribute [local go_sem] Oper.semAt_some

variable {w w' : World} {qb mb a b : Nat} {V : Value} {Ra Rb R : List Nat} {M : Qs}
theorem ref_ok {t : Int} {c : Bool} (h : refE M t c = 0) : c = true ∧ mayT t = true ∧ hasP M.s t = false ∧ hasP M.r t = false := by
  unfold refE wAny at h
  cases c <;> cases hm : mayT t <;> cases h1 : hasP M.s t <;> cases h2 : hasP M.r t <;> simp [hm, h1, h2] at h ⊢
theorem mayT_iff {t : Int} (h : mayT t = true) : 0 ≤ t ∧ t < 16 := by simpa [mayT] using h
theorem fin_box {w w1 w2 w3 : World} {M' : Qs} {g : Nat} (hR : ∀ k ∈ R, k < w.heap.size) (k1 : Kp w w1 []) (hT : To w1 w2 qb R M') (hg : w.heap.size ≤ g) (hg1 : g < w1.heap.size) (k3 : Kp w2 w3 [g]) : To w w3 qb R M' := by
  obtain ⟨R2, q2, n2, k2⟩ := hT
  have hs := k1.size
  refine ⟨R2, q2.keep k3 (fun k hk e => ?_), fun k hk => (n2 k hk).imp id (fun h => by omega), (k1.nil.trans k2).past k3 (fun k hk hl => ?_)⟩
  · simp only [List.mem_singleton] at e
    subst e
    rcases n2 _ hk with q | q
    · have := hR _ q
      omega
    · omega
  · simp only [List.mem_singleton] at hk
    omega
set_option maxRecDepth 100000 in
set_option maxHeartbeats 1000000 in
/-- Somebody waits to receive. -/
theorem send_one (h : Qc w qb R M) (t pr m1 m2 : Int) (ht : i64 t) (hE : sendE M t pr (m1, m2) = 0) (hb : fstB M.r = true) : Calls Try.prog 15 #[.pointer (some ⟨qb, 0, none⟩), .int .i64 t, .int .i64 pr, .agg #[.int .i64 m1, .int .i64 m2]] w fun e w' => e = .returned (.tuple #[passed true (m1, m2) (fstT M.r), .int .i64 0]) ∧ To w w' qb R { M with r := takeL M.r } := by
  have k0 := (Kp.alloc w (.cells #[.int .i64 m1, .int .i64 m2] 34) []).trans (Kp.alloc _ (.cells #[.bool false, .int .i64 0, .int .i64 0, .int .i64 0] 45) [])
  have b0 := (Bm.new w (m1, m2)).keep (Kp.alloc _ (.cells #[.bool false, .int .i64 0, .int .i64 0, .int .i64 0] 45) []) (by simp)
  have p0 := hid (Bp.new w (.cells #[.int .i64 m1, .int .i64 m2] 34))
  obtain ⟨e1, e2, e3, e4⟩ := ref_ok hE
  simp only [Bool.and_eq_true] at e1
  have HA := hid (fun z => mayPrio_any z pr)
  have HB := hid (fun z => mayMsg_any z m2)
  have HR := hid (fun (z : World) (hk : Kp w z []) => refusal_yes (h.same hk) t true ht)
  have hE' : refE M t true = 0 := by
    unfold sendE at hE
    rw [e1.1, e1.2] at hE
    exact hE
  simp only [e1.1, e1.2, hE'] at HA HB HR
  obtain ⟨mb, a, b, V, Ra, Rb, rfl, h⟩ := h
  have HH := hid h
  have HT := hid (fun (z : World) (hk : Kp w z []) => (h.same hk).wb.take)
  have H4 := hid (fun (z : World) (hk : Kp w z []) => (h.same hk).c4)
  have c1 := cell_two1 b0
  have K0 := hid k0
  have B0 := hid b0
  rw [hb] at HT
  have HS := hid (fun (z z2 : World) (L : List Dl) (R1 : List Nat) (hz : Kp w z []) (h1 : Wr z2 b R1 L) (hn : Nw z Rb R1) (hk : Kp z z2 Rb) => to_r (h.same hz) h1 hn hk)
  generalize fstT M.r = T at HT ⊢
  clear h hE hE' k0 b0
  obtain ⟨s, hs⟩ : ∃ s, w.heap.size = s := ⟨_, rfl⟩
  obtain ⟨W0, hW0⟩ : ∃ W0, (w.alloc (.cells #[.int .i64 m1, .int .i64 m2] 34)).alloc (.cells #[.bool false, .int .i64 0, .int .i64 0, .int .i64 0] 45) = W0 := ⟨_, rfl⟩
  go_enter Try.func15, Try.ntmps15
  go_wp2_with fail
  simp only [hW0, hs] at K0 B0 p0 c1 ⊢
  refine (HA.out _).mono ?_
  rintro e w1 ⟨rfl, hw⟩; obtain rfl := hw.symm
  go_wp2_with fail
  refine (HB.out _).mono ?_
  rintro e w1 ⟨rfl, hw⟩; obtain rfl := hw.symm
  go_wp2_with fail
  refine (HR.out _ K0.out).mono ?_
  rintro e w1 ⟨rfl, hk⟩
  have K1 := hid (K0.out.trans hk)
  have B1 := hid (B0.out.keep hk (by simp))
  have P1 := hid (p0.out.keep hk (by simp))
  have HLT := hid (show s + 1 < w1.heap.size from lt_of_block P1.out)
  have HRL := hid HH.out.lt
  have c4 := H4.out _ K1.out
  clear hk
  go_wp2_with fail
  refine (HT.out _ K1.out).mono ?_
  rintro e w2 ⟨rfl, R1, h1, hn, hk⟩
  have hX := HS.out w1 w2 _ R1 K1.out h1 hn hk
  have HX := hid (hX.1.to hX.2.1 hX.2.2)
  have hsr : ∀ k, s ≤ k → k ∉ Rb := fun k hk hm => by
    have := HH.out.lt k (by simp [hm])
    omega
  have b2 := B1.out.keep hk (hsr _ (by omega))
  have P2 := hid (P1.out.keep hk (hsr _ (by omega)))
  have d0 := cell_two0 b2
  have d1 := cell_two1 b2
  have q0 := P2.out.c0
  have q1 := P2.out.c1
  have q2 := P2.out.c2
  have q3 := P2.out.c3
  have q4 := P2.out.fr
  clear h1 hn hk hX hsr b2
  go_wp2
  refine bodyPost_ret (results_cell_tmp rfl _ _ (s + 1) #[.bool true, .int .i64 m1, .int .i64 m2, .int .i64 T] (0, 0) rfl (P2.out.set true m1 m2 T) (size45 _ _ _ _)) rfl ?_
  exact ⟨rfl, fin_box HRL.out K1.out HX.out (by omega) HLT.out (kp_set4 _ _ _ _ _ _)⟩
set_option maxRecDepth 100000 in
set_option maxHeartbeats 1000000 in
/-- There is room. -/
theorem send_two (h : Qc w qb R M) (t pr m1 m2 : Int) (ht : i64 t) (hE : sendE M t pr (m1, m2) = 0) (hb : fstB M.r = false) (hf : M.full = false) : Calls Try.prog 15 #[.pointer (some ⟨qb, 0, none⟩), .int .i64 t, .int .i64 pr, .agg #[.int .i64 m1, .int .i64 m2]] w fun e w' => e = .returned (.tuple #[passed true (m1, m2) (-1), .int .i64 0]) ∧ To w w' qb R { M with L := putM M.L (m1, m2) } := by
  have k0 := (Kp.alloc w (.cells #[.int .i64 m1, .int .i64 m2] 34) []).trans (Kp.alloc _ (.cells #[.bool false, .int .i64 0, .int .i64 0, .int .i64 0] 45) [])
  have b0 := (Bm.new w (m1, m2)).keep (Kp.alloc _ (.cells #[.bool false, .int .i64 0, .int .i64 0, .int .i64 0] 45) []) (by simp)
  have p0 := hid (Bp.new w (.cells #[.int .i64 m1, .int .i64 m2] 34))
  obtain ⟨e1, e2, e3, e4⟩ := ref_ok hE
  simp only [Bool.and_eq_true] at e1
  have HA := hid (fun z => mayPrio_any z pr)
  have HB := hid (fun z => mayMsg_any z m2)
  have HR := hid (fun (z : World) (hk : Kp w z []) => refusal_yes (h.same hk) t true ht)
  have hE' : refE M t true = 0 := by
    unfold sendE at hE
    rw [e1.1, e1.2] at hE
    exact hE
  simp only [e1.1, e1.2, hE'] at HA HB HR
  obtain ⟨mb, a, b, V, Ra, Rb, rfl, h⟩ := h
  have HH := hid h
  have HT := hid (fun (z : World) (hk : Kp w z []) => (h.same hk).wb.take)
  have H4 := hid (fun (z : World) (hk : Kp w z []) => (h.same hk).c4)
  have c1 := cell_two1 b0
  have K0 := hid k0
  have B0 := hid b0
  rw [hb, take_no hb] at HT
  have HS := hid (fun (z z2 : World) (L : List Dl) (R1 : List Nat) (hz : Kp w z []) (h1 : Wr z2 b R1 L) (hn : Nw z Rb R1) (hk : Kp z z2 Rb) => to_r (h.same hz) h1 hn hk)
  have HL := hid (show (M.L.length : Int) < M.n by
    have := h.len
    unfold Qs.full at hf
    have := of_decide_eq_false hf
    omega)
  have HFU := hid hf
  generalize fstT M.r = T at HT
  clear h hE hE' k0 b0
  obtain ⟨s, hs⟩ : ∃ s, w.heap.size = s := ⟨_, rfl⟩
  obtain ⟨W0, hW0⟩ : ∃ W0, (w.alloc (.cells #[.int .i64 m1, .int .i64 m2] 34)).alloc (.cells #[.bool false, .int .i64 0, .int .i64 0, .int .i64 0] 45) = W0 := ⟨_, rfl⟩
  go_enter Try.func15, Try.ntmps15
  go_wp2_with fail
  simp only [hW0, hs] at K0 B0 p0 c1 ⊢
  refine (HA.out _).mono ?_
  rintro e w1 ⟨rfl, hw⟩; obtain rfl := hw.symm
  go_wp2_with fail
  refine (HB.out _).mono ?_
  rintro e w1 ⟨rfl, hw⟩; obtain rfl := hw.symm
  go_wp2_with fail
  refine (HR.out _ K0.out).mono ?_
  rintro e w1 ⟨rfl, hk⟩
  have K1 := hid (K0.out.trans hk)
  have B1 := hid (B0.out.keep hk (by simp))
  have P1 := hid (p0.out.keep hk (by simp))
  have HLT := hid (show s + 1 < w1.heap.size from lt_of_block P1.out)
  have HRL := hid HH.out.lt
  have c4 := H4.out _ K1.out
  clear hk
  go_wp2_with fail
  refine (HT.out _ K1.out).mono ?_
  rintro e w2 ⟨rfl, R1, h1, hn, hk⟩
  have hX := HS.out w1 w2 _ R1 K1.out h1 hn hk
  have hsr : ∀ k, s ≤ k → k ∉ Rb := fun k hk hm => by
    have := HH.out.lt k (by simp [hm])
    omega
  have b2 := B1.out.keep hk (hsr _ (by omega))
  have P2 := hid (P1.out.keep hk (hsr _ (by omega)))
  have B2 := hid b2
  have HFF := hid (fun (z : World) (hz : Kp w2 z []) => full_yes (hX.1.same hz).qc)
  have HPU := hid (fun (z : World) (hz : Kp w2 z []) => put_any' (hX.1.same hz).qc m1 m2 HL.out)
  have HX := hid (show To w1 w2 qb (qrows qb mb V Ra Rb) M from hX.1.to hX.2.1 hX.2.2)
  have HNK := hid hX.2
  clear h1 hn hk hX b2
  go_wp2_with fail
  refine (HFF.out _ (Kp.refl _ _)).mono ?_
  rw [show ({ M with r := M.r } : Qs).full = false from HFU.out]
  rintro e w3 ⟨rfl, hk3⟩
  have K3 := hid hk3
  have b3 := B2.out.keep hk3 (by simp)
  have d0 := cell_two0 b3
  have d1 := cell_two1 b3
  have P3 := hid (P2.out.keep hk3 (by simp))
  have B3 := hid b3
  clear hk3 b3
  go_wp2_with fail
  refine (HPU.out _ K3.out).mono ?_
  rintro e w4 ⟨rfl, R4, q4, n4, k4⟩
  have hsr : ∀ k, s ≤ k → k < w1.heap.size → k ∉ qrows qb mb V Ra R1 := fun k hk hl hm => by
    rcases HNK.out.1 k hm with q | q
    · have := HRL.out k q
      omega
    · omega
  have b4 := B3.out.keep k4 (hsr _ (by omega) (by have := HLT.out; omega))
  have P4 := hid (P3.out.keep k4 (hsr _ (by omega) HLT.out))
  have nk := nk_trans HNK.out.1 (HNK.out.2.trans K3.out.nil) n4 k4
  have HX4 := hid (show To w1 w4 qb (qrows qb mb V Ra Rb) { M with L := putM M.L (m1, m2) } from ⟨R4, q4, nk.1, nk.2⟩)
  have d0 := cell_two0 b4
  have d1 := cell_two1 b4
  have q0 := P4.out.c0
  have q1 := P4.out.c1
  have q2 := P4.out.c2
  have q3 := P4.out.c3
  have q4 := P4.out.fr
  clear n4 k4 hsr b4 nk
  go_wp2
  refine bodyPost_ret (results_cell_tmp rfl _ _ (s + 1) #[.bool true, .int .i64 m1, .int .i64 m2, .int .i64 (-1)] (0, 0) rfl (P4.out.set true m1 m2 (-1)) (size45 _ _ _ _)) rfl ?_
  exact ⟨rfl, fin_box HRL.out K1.out HX4.out (by omega) HLT.out (kp_set4 _ _ _ _ _ _)⟩
set_option maxRecDepth 100000 in
set_option maxHeartbeats 1000000 in
/-- There is none. -/
theorem send_three (h : Qc w qb R M) (t pr m1 m2 : Int) (ht : i64 t) (hE : sendE M t pr (m1, m2) = 0) (hb : fstB M.r = false) (hf : M.full = true) : Calls Try.prog 15 #[.pointer (some ⟨qb, 0, none⟩), .int .i64 t, .int .i64 pr, .agg #[.int .i64 m1, .int .i64 m2]] w fun e w' => e = .returned (.tuple #[passed false (m1, m2) (-1), .int .i64 0]) ∧ To w w' qb R { M with s := putL M.s t pr, f := setF M.f t (some (m1, m2)) } := by
  have k0 := (Kp.alloc w (.cells #[.int .i64 m1, .int .i64 m2] 34) []).trans (Kp.alloc _ (.cells #[.bool false, .int .i64 0, .int .i64 0, .int .i64 0] 45) [])
  have b0 := (Bm.new w (m1, m2)).keep (Kp.alloc _ (.cells #[.bool false, .int .i64 0, .int .i64 0, .int .i64 0] 45) []) (by simp)
  have p0 := hid (Bp.new w (.cells #[.int .i64 m1, .int .i64 m2] 34))
  obtain ⟨e1, e2, e3, e4⟩ := ref_ok hE
  simp only [Bool.and_eq_true] at e1
  have HA := hid (fun z => mayPrio_any z pr)
  have HB := hid (fun z => mayMsg_any z m2)
  have HR := hid (fun (z : World) (hk : Kp w z []) => refusal_yes (h.same hk) t true ht)
  have hE' : refE M t true = 0 := by
    unfold sendE at hE
    rw [e1.1, e1.2] at hE
    exact hE
  simp only [e1.1, e1.2, hE'] at HA HB HR
  obtain ⟨mb, a, b, V, Ra, Rb, rfl, h⟩ := h
  have HH := hid h
  have HT := hid (fun (z : World) (hk : Kp w z []) => (h.same hk).wb.take)
  have H4 := hid (fun (z : World) (hk : Kp w z []) => (h.same hk).c4)
  have c1 := cell_two1 b0
  have K0 := hid k0
  have B0 := hid b0
  rw [hb, take_no hb] at HT
  have HS := hid (fun (z z2 : World) (L : List Dl) (R1 : List Nat) (hz : Kp w z []) (h1 : Wr z2 b R1 L) (hn : Nw z Rb R1) (hk : Kp z z2 Rb) => to_r (h.same hz) h1 hn hk)
  have HFU := hid hf
  have HTR := hid (mayT_iff e2)
  have HPE := hid (show putE M.s t pr = 0 by unfold putE; rw [e2, e1.1, e3]; rfl)
  generalize fstT M.r = T at HT
  clear h hE hE' k0 b0
  obtain ⟨s, hs⟩ : ∃ s, w.heap.size = s := ⟨_, rfl⟩
  obtain ⟨W0, hW0⟩ : ∃ W0, (w.alloc (.cells #[.int .i64 m1, .int .i64 m2] 34)).alloc (.cells #[.bool false, .int .i64 0, .int .i64 0, .int .i64 0] 45) = W0 := ⟨_, rfl⟩
  go_enter Try.func15, Try.ntmps15
  go_wp2_with fail
  simp only [hW0, hs] at K0 B0 p0 c1 ⊢
  refine (HA.out _).mono ?_
  rintro e w1 ⟨rfl, hw⟩; obtain rfl := hw.symm
  go_wp2_with fail
  refine (HB.out _).mono ?_
  rintro e w1 ⟨rfl, hw⟩; obtain rfl := hw.symm
  go_wp2_with fail
  refine (HR.out _ K0.out).mono ?_
  rintro e w1 ⟨rfl, hk⟩
  have K1 := hid (K0.out.trans hk)
  have B1 := hid (B0.out.keep hk (by simp))
  have P1 := hid (p0.out.keep hk (by simp))
  have HLT := hid (show s + 1 < w1.heap.size from lt_of_block P1.out)
  have HRL := hid HH.out.lt
  have c4 := H4.out _ K1.out
  clear hk
  go_wp2_with fail
  refine (HT.out _ K1.out).mono ?_
  rintro e w2 ⟨rfl, R1, h1, hn, hk⟩
  have hX := HS.out w1 w2 _ R1 K1.out h1 hn hk
  have hsr : ∀ k, s ≤ k → k ∉ Rb := fun k hk hm => by
    have := HH.out.lt k (by simp [hm])
    omega
  have b2 := B1.out.keep hk (hsr _ (by omega))
  have P2 := hid (P1.out.keep hk (hsr _ (by omega)))
  have B2 := hid b2
  have HFF := hid (fun (z : World) (hz : Kp w2 z []) => full_yes (hX.1.same hz).qc)
  have HQ2 := hid (fun (z : World) (hz : Kp w2 z []) => hX.1.same hz)
  have HX := hid (show To w1 w2 qb (qrows qb mb V Ra Rb) M from hX.1.to hX.2.1 hX.2.2)
  have HNK := hid hX.2
  clear h1 hn hk hX b2
  go_wp2_with fail
  refine (HFF.out _ (Kp.refl _ _)).mono ?_
  rw [show ({ M with r := M.r } : Qs).full = true from HFU.out]
  rintro e w3 ⟨rfl, hk3⟩
  have K3 := hid hk3
  have b3 := B2.out.keep hk3 (by simp)
  have d0 := cell_two0 b3
  have d1 := cell_two1 b3
  have P3 := hid (P2.out.keep hk3 (by simp))
  have B3 := hid b3
  clear hk3 b3
  go_wp2_with fail
  have hq3 := HQ2.out w3.drew (K3.out.trans (Kp.drew _ _))
  have c2 := (HQ2.out w3 K3.out).c2
  obtain ⟨w4, hrun, hm, hk4, -⟩ := hq3.mp.store HTR.out (m1, m2)
  rw [mv_eq] at hrun
  simp only at hrun
  have hM := to_map (M' := { M with f := setF M.f t (some (m1, m2)) }) hq3 hm hk4 rfl rfl rfl rfl
  have hsr : ∀ k, s ≤ k → k < w1.heap.size → k ∉ qrows qb mb V Ra R1 := fun k hk hl hm => by
    rcases HNK.out.1 k hm with q | q
    · have := HRL.out k q
      omega
    · omega
  have b4 := (B3.out.keep (Kp.drew w3 []) (by simp)).keep hM.2 (hsr _ (by omega) (by have := HLT.out; omega))
  have P4 := hid ((P3.out.keep (Kp.drew w3 []) (by simp)).keep hM.2 (hsr _ (by omega) HLT.out))
  have B4 := hid b4
  have d3 := hM.1.c3
  have HM := hid hM
  have HPT := hid (show ∀ z, Kp w4 z [] → Calls Try.prog 48 #[.pointer (some ⟨a, 0, none⟩), .int .i64 t, .int .i64 pr] z (fun e w' => e = .returned (.int .i64 0) ∧ ∃ R', Wr w' a R' (putL M.s t pr) ∧ Nw z Ra R' ∧ Kp z w' Ra) from fun z hz => ((hM.1.same hz).wa.put t pr).mono (fun e w' ⟨h1, h2⟩ => ⟨by rw [h1]; exact congrArg (fun x => Ending.returned (.int .i64 x)) HPE.out, h2⟩))
  have HSA := hid (show s ∉ Ra ∧ s + 1 ∉ Ra from ⟨fun hm => by have := HRL.out s (by simp [hm]); omega, fun hm => by have := HRL.out (s + 1) (by simp [hm]); omega⟩)
  clear hq3 hm hk4 hM hsr
  have e0 := cell_two0 b4
  have e1' := cell_two1 b4
  clear b4
  go_region
  go_wp2_with fail
  go_region_with (go_at_call 48; refine (HPT.out _ (by exact Kp.drew _ _)).mono ?_; rintro e w5 ⟨rfl, R5, h5, n5, k5⟩; have b5 := B4.out.keep ((Kp.drew w4 Ra).trans k5) HSA.out.1; have g0 := cell_two0 b5; have g1 := cell_two1 b5; have P5 := hid (P4.out.keep ((Kp.drew w4 Ra).trans k5) HSA.out.2); have q0 := P5.out.c0; have q1 := P5.out.c1; have q2 := P5.out.c2; have q3 := P5.out.c3; have q4 := P5.out.fr; have HX5 := hid (to_s (HM.out.1.same (Kp.drew w4 [])) h5 n5 k5); clear h5 n5 k5 b5)
  all_goals (
    go_wp2_with fail
    refine bodyPost_ret (results_cell_tmp rfl _ _ (s + 1) #[.bool false, .int .i64 m1, .int .i64 m2, .int .i64 (-1)] (0, 0) rfl (P5.out.set false m1 m2 (-1)) (size45 _ _ _ _)) rfl ?_
    have nk := nk_trans HNK.out.1 ((HNK.out.2.trans K3.out.nil).trans (Kp.drew w3 _)) (Nw.refl _ _) HM.out.2
    have nk2 := nk_trans nk.1 (nk.2.trans (Kp.drew w4 _)) HX5.out.2.1 HX5.out.2.2
    exact ⟨rfl, fin_box HRL.out K1.out (HX5.out.1.to nk2.1 nk2.2) (by omega) HLT.out (kp_set4 _ _ _ _ _ _)⟩)
end Go.Proofs.Ytllkopekfanfaaa
