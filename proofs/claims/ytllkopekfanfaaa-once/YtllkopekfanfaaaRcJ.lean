/- Receive. -/
import Derived.BigQuiet
import Derived.Deep.RegionHeldLaw
import Derived.Deep.RegionWith
import Derived.Test.YtllkopekfanfaaaSo
import Derived.Shelf.SlMaps.Clone
import Derived.Maps.RangeWalk
namespace Go.Proofs.Ytllkopekfanfaaa
open Go.RowKit Go.Shelf Go.Lib Go.Sort Go.Maps
attribute [local go_sem] Oper.semAt_some

variable {w w' : World} {qb mb a b : Nat} {V : Value} {Ra Rb R : List Nat} {M : Qs}
theorem Bp.new1 (w : World) : Bp (w.alloc (.cells #[.bool false, .int .i64 0, .int .i64 0, .int .i64 0] 45)) w.heap.size false 0 0 0 := heap_alloc_new w _
set_option maxRecDepth 100000 in
theorem rec_no (w : World) (p : Option Addr) (t pr : Int) (h : Zq w p) : Calls Try.prog 17 #[.pointer p, .int .i64 t, .int .i64 pr] w fun e w' => e = .returned (.tuple #[passed false (0, 0) 0, .int .i64 1]) ∧ Kp w w' [] := by
  have K0 := hid (Kp.alloc w (.cells #[.bool false, .int .i64 0, .int .i64 0, .int .i64 0] 45) [])
  have p0 := hid (Bp.new1 w)
  have HR := hid (fun (z : World) (hk : Kp w z []) (m : Bool) => refusal_no z p t m (h.keep hk))
  have HA := hid (fun z => mayPrio_any z pr)
  generalize mayP pr = A at *
  rw [passed_zero]
  clear h
  go_enter Try.func17, Try.ntmps17
  go_wp2_with fail
  refine (HA.out _).mono ?_
  rintro e w1 ⟨rfl, hw⟩; obtain rfl := hw.symm
  go_wp2_with fail
  refine (HR.out _ K0.out _).mono ?_
  rintro e w1 ⟨rfl, hk⟩
  have HK := hid (K0.out.trans hk)
  have HB4 := hid (p0.out.keep hk (by simp))
  have q0 := HB4.out.c0
  have q1 := HB4.out.c1
  have q2 := HB4.out.c2
  have q3 := HB4.out.c3
  have q4 := HB4.out.fr
  clear hk
  go_wp2
  refine bodyPost_ret (results_cell_tmp rfl _ _ w.heap.size #[.bool false, .int .i64 0, .int .i64 0, .int .i64 0] (0, 0) rfl (HB4.out.set false 0 0 0) (size45 _ _ _ _)) rfl ?_
  exact ⟨rfl, HK.out.past (kp_set4 _ _ _ _ _ _) (fun k hk hl => by simp at hk; omega)⟩
set_option maxRecDepth 100000 in
theorem rec_bad (h : Qc w qb R M) (t pr : Int) (ht : i64 t) (hE : recE M t pr ≠ 0) : Calls Try.prog 17 #[.pointer (some ⟨qb, 0, none⟩), .int .i64 t, .int .i64 pr] w fun e w' => e = .returned (.tuple #[passed false (0, 0) 0, .int .i64 (recE M t pr)]) ∧ To w w' qb R M := by
  have K0 := hid (Kp.alloc w (.cells #[.bool false, .int .i64 0, .int .i64 0, .int .i64 0] 45) [])
  have p0 := hid (Bp.new1 w)
  have HR := hid (fun (z : World) (hk : Kp w z []) => refusal_yes (h.same hk) t (mayP pr) ht)
  have HA := hid (fun z => mayPrio_any z pr)
  have HF := hid (fun z (hk : Kp w z []) => To.stay h hk)
  unfold recE at hE ⊢
  have hE0 : (refE M t (mayP pr) == 0) = false := by simpa using hE
  generalize refE M t (mayP pr) = E at *
  generalize mayP pr = A at *
  rw [passed_zero]
  clear h hE
  go_enter Try.func17, Try.ntmps17
  go_wp2_with fail
  refine (HA.out _).mono ?_
  rintro e w1 ⟨rfl, hw⟩; obtain rfl := hw.symm
  go_wp2_with fail
  refine (HR.out _ K0.out).mono ?_
  rintro e w1 ⟨rfl, hk⟩
  have HK := hid (K0.out.trans hk)
  have HB4 := hid (p0.out.keep hk (by simp))
  have q0 := HB4.out.c0
  have q1 := HB4.out.c1
  have q2 := HB4.out.c2
  have q3 := HB4.out.c3
  have q4 := HB4.out.fr
  clear hk
  go_wp2
  refine bodyPost_ret (results_cell_tmp rfl _ _ w.heap.size #[.bool false, .int .i64 0, .int .i64 0, .int .i64 0] (0, 0) rfl (HB4.out.set false 0 0 0) (size45 _ _ _ _)) rfl ?_
  exact ⟨rfl, HF.out _ (HK.out.past (kp_set4 _ _ _ _ _ _) (fun k hk hl => by simp at hk; omega))⟩
set_option maxRecDepth 100000 in
set_option maxHeartbeats 1000000 in
/-- There is none. -/
theorem rec_one (h : Qc w qb R M) (t pr : Int) (ht : i64 t) (hE : recE M t pr = 0) (hL : M.L = []) : Calls Try.prog 17 #[.pointer (some ⟨qb, 0, none⟩), .int .i64 t, .int .i64 pr] w fun e w' => e = .returned (.tuple #[passed false (0, 0) (-1), .int .i64 0]) ∧ To w w' qb R { M with r := putL M.r t pr } := by
  have K0 := hid (Kp.alloc w (.cells #[.bool false, .int .i64 0, .int .i64 0, .int .i64 0] 45) [])
  have p0 := hid (Bp.new1 w)
  obtain ⟨e1, e2, e3, e4⟩ := ref_ok hE
  have HA := hid (fun z => mayPrio_any z pr)
  have hE' : refE M t true = 0 := by
    unfold recE at hE
    rw [e1] at hE
    exact hE
  have HR := hid (fun (z : World) (hk : Kp w z []) => refusal_yes (h.same hk) t true ht)
  simp only [e1, hE'] at HA HR
  have HT := hid (fun (z : World) (hk : Kp w z []) => take_qany z qb R M (h.same hk))
  have HRL := hid h.lt
  have HPE := hid (show putE M.r t pr = 0 by unfold putE; rw [e2, e1, e4]; rfl)
  rw [tail_nil hL, show M.L.headD (0, 0) = (0, 0) by rw [hL]; rfl, show (!M.L.isEmpty) = false by rw [hL]; rfl, mv_eq] at HT
  clear h hE hE'
  obtain ⟨s, hs⟩ : ∃ s, w.heap.size = s := ⟨_, rfl⟩
  obtain ⟨W0, hW0⟩ : ∃ W0, w.alloc (.cells #[.bool false, .int .i64 0, .int .i64 0, .int .i64 0] 45) = W0 := ⟨_, rfl⟩
  go_enter Try.func17, Try.ntmps17
  go_wp2_with fail
  simp only [hW0, hs] at K0 p0 ⊢
  refine (HA.out _).mono ?_
  rintro e w1 ⟨rfl, hw⟩; obtain rfl := hw.symm
  go_wp2_with fail
  refine (HR.out _ K0.out).mono ?_
  rintro e w1 ⟨rfl, hk⟩
  have K1 := hid (K0.out.trans hk)
  have P1 := hid (p0.out.keep hk (by simp))
  have HLT := hid (show s < w1.heap.size from lt_of_block P1.out)
  clear hk
  go_wp2_with fail
  refine (HT.out _ K1.out).mono ?_
  rintro e w2 ⟨rfl, R2, q2, n2, k2⟩
  have P2 := hid (P1.out.keep k2 (fun hm => by have := HRL.out _ hm; omega))
  have HNK := hid (And.intro n2 k2)
  obtain ⟨mb, a, b, V, Ra, Rb, rfl, h2⟩ := q2
  have HQ2 := hid h2
  have c4 := h2.c4
  have hl2 := lt_of_block h2.hh
  have HQ4 := hid (fun (z : World) (hz : Kp w2 z []) => (h2.same hz).c4)
  have HPT := hid (show ∀ z, Kp w2 z [] → Calls Try.prog 48 #[.pointer (some ⟨b, 0, none⟩), .int .i64 t, .int .i64 pr] z (fun e w' => e = .returned (.int .i64 0) ∧ ∃ R', Wr w' b R' (putL M.r t pr) ∧ Nw z Rb R' ∧ Kp z w' Rb) from fun z hz => ((h2.same hz).wb.put t pr).mono (fun e w' ⟨h1, h2⟩ => ⟨by rw [h1]; exact congrArg (fun x => Ending.returned (.int .i64 x)) HPE.out, h2⟩))
  have HLT2 := hid (show s < w2.heap.size from lt_of_block P2.out)
  clear n2 k2 h2
  go_wp2_with fail
  refine (HPT.out _ (Kp.alloc _ _ _)).mono ?_
  rintro e w3 ⟨rfl, R3, h3, n3, k3⟩
  have hX := to_r (HQ2.out.same (Kp.alloc w2 (.cells #[.int .i64 0, .int .i64 0] 34) [])) h3 n3 k3
  have hsr : s ∉ Rb := fun hm => by
    rcases HNK.out.1 s (by simp [hm]) with q | q
    · have := HRL.out s q
      omega
    · have := HLT.out
      omega
  have P3 := hid ((P2.out.keep (Kp.alloc w2 (.cells #[.int .i64 0, .int .i64 0] 34) []) (by simp)).keep k3 hsr)
  have q0 := P3.out.c0
  have q1 := P3.out.c1
  have q2 := P3.out.c2
  have q3 := P3.out.c3
  have q4 := P3.out.fr
  have nk := nk_trans HNK.out.1 (HNK.out.2.trans (Kp.alloc w2 (.cells #[.int .i64 0, .int .i64 0] 34) [] |>.nil)) hX.2.1 hX.2.2
  have HX := hid (hX.1.to nk.1 nk.2)
  clear h3 n3 k3 hX hsr nk
  go_wp2
  refine bodyPost_ret (results_cell_tmp rfl _ _ s #[.bool false, .int .i64 0, .int .i64 0, .int .i64 (-1)] (0, 0) rfl (P3.out.set false 0 0 (-1)) (size45 _ _ _ _)) rfl ?_
  exact ⟨rfl, fin_box HRL.out K1.out HX.out (by omega) HLT.out (kp_set4 _ _ _ _ _ _)⟩
set_option maxRecDepth 100000 in
set_option maxHeartbeats 1000000 in
/-- There is one. -/
theorem rec_two (h : Qc w qb R M) (t pr : Int) (ht : i64 t) (hE : recE M t pr = 0) (x1 x2 : Int) (Z : Ml) (hL : M.L = (x1, x2) :: Z) : Calls Try.prog 17 #[.pointer (some ⟨qb, 0, none⟩), .int .i64 t, .int .i64 pr] w fun e w' => e = .returned (.tuple #[passed true (x1, x2) (letT M), .int .i64 0]) ∧ To w w' qb R (letM { M with L := Z }) := by
  have K0 := hid (Kp.alloc w (.cells #[.bool false, .int .i64 0, .int .i64 0, .int .i64 0] 45) [])
  have p0 := hid (Bp.new1 w)
  obtain ⟨e1, e2, e3, e4⟩ := ref_ok hE
  have HA := hid (fun z => mayPrio_any z pr)
  have hE' : refE M t true = 0 := by
    unfold recE at hE
    rw [e1] at hE
    exact hE
  have HR := hid (fun (z : World) (hk : Kp w z []) => refusal_yes (h.same hk) t true ht)
  simp only [e1, hE'] at HA HR
  have HT := hid (fun (z : World) (hk : Kp w z []) => take_qany z qb R M (h.same hk))
  have HRL := hid h.lt
  have HLM := hid (show (Z.length : Int) < M.n by
    obtain ⟨mb, a, b, V, Ra, Rb, rfl, h⟩ := h
    have := h.len
    rw [hL] at this
    simp at this
    omega)
  rw [show M.L.headD (0, 0) = (x1, x2) by rw [hL]; rfl, show (!M.L.isEmpty) = true by rw [hL]; rfl, show M.L.tail = Z by rw [hL]; rfl, mv_eq] at HT
  simp only at HT
  clear h hE hE'
  obtain ⟨s, hs⟩ : ∃ s, w.heap.size = s := ⟨_, rfl⟩
  obtain ⟨W0, hW0⟩ : ∃ W0, w.alloc (.cells #[.bool false, .int .i64 0, .int .i64 0, .int .i64 0] 45) = W0 := ⟨_, rfl⟩
  go_enter Try.func17, Try.ntmps17
  go_wp2_with fail
  simp only [hW0, hs] at K0 p0 ⊢
  refine (HA.out _).mono ?_
  rintro e w1 ⟨rfl, hw⟩; obtain rfl := hw.symm
  go_wp2_with fail
  refine (HR.out _ K0.out).mono ?_
  rintro e w1 ⟨rfl, hk⟩
  have K1 := hid (K0.out.trans hk)
  have P1 := hid (p0.out.keep hk (by simp))
  have HLT := hid (show s < w1.heap.size from lt_of_block P1.out)
  clear hk
  go_wp2_with fail
  refine (HT.out _ K1.out).mono ?_
  rintro e w2 ⟨rfl, R2, q2, n2, k2⟩
  have P2 := hid (P1.out.keep k2 (fun hm => by have := HRL.out _ hm; omega))
  have HNK := hid (And.intro n2 k2)
  have HPT := hid (fun (z : World) (hz : Kp w2 z []) => letIn_any (q2.same hz) HLM.out)
  rw [show letT ({ M with L := Z } : Qs) = letT M from rfl] at HPT
  have HLT2 := hid (show s < w2.heap.size from lt_of_block P2.out)
  generalize letT M = T at HPT ⊢
  have HSR := hid (show s ∉ R2 from fun hm => by
    rcases n2 s hm with q | q
    · have := HRL.out s q
      omega
    · have := HLT.out
      omega)
  have HQT := hid q2.lt
  clear n2 k2 q2
  have HQL := hid (show s ∉ R2 ∧ w2.heap.size ∉ R2 from ⟨HSR.out, fun hm => by have := HQT.out _ hm; omega⟩)
  have BF := hid (Bm.new w2 (x1, x2))
  have PF := hid (P2.out.keep (Kp.alloc w2 (.cells #[.int .i64 x1, .int .i64 x2] 34) []) (by simp))
  go_wp2_with fail
  go_region_with (go_at_call 51; refine (HPT.out _ (by exact (Kp.alloc w2 (.cells #[.int .i64 x1, .int .i64 x2] 34) []).trans (Kp.drew _ _))).mono ?_; rintro e w3 ⟨rfl, R3, h3, n3, k3⟩; have P3 := hid ((PF.out.keep (Kp.drew _ []) (by simp)).keep k3 HQL.out.1); have b3 := (BF.out.keep (Kp.drew _ []) (by simp)).keep k3 HQL.out.2; have g0 := cell_two0 b3; have g1 := cell_two1 b3; have q0 := P3.out.c0; have q1 := P3.out.c1; have q2 := P3.out.c2; have q3 := P3.out.c3; have q4 := P3.out.fr; have nk := nk_trans HNK.out.1 (HNK.out.2.trans ((Kp.alloc w2 (.cells #[.int .i64 x1, .int .i64 x2] 34) []).trans (Kp.drew _ []) |>.nil)) n3 k3; have HX := hid (show To w1 w3 qb R (letM { M with L := Z }) from ⟨R3, h3, nk.1, nk.2⟩); clear h3 n3 k3 nk b3)
  all_goals (
    go_wp2_with fail
    refine bodyPost_ret (results_cell_tmp rfl _ _ s #[.bool true, .int .i64 x1, .int .i64 x2, .int .i64 T] (0, 0) rfl (P3.out.set true x1 x2 T) (size45 _ _ _ _)) rfl ?_
    exact ⟨by kernel_rfl, fin_box HRL.out K1.out HX.out (by omega) HLT.out (kp_set4 _ _ _ _ _ _)⟩)
end Go.Proofs.Ytllkopekfanfaaa

/- Leave, Change. -/
namespace Go.Proofs.Ytllkopekfanfaaa
open Go.RowKit Go.Shelf Go.Lib Go.Sort Go.Maps
attribute [local go_sem] Oper.semAt_some

variable {w w' : World} {qb mb a b : Nat} {V : Value} {Ra Rb R : List Nat} {M : Qs}
theorem zw_none (w : World) : Zw w none := .inl rfl
set_option maxRecDepth 100000 in
theorem leave_no (w : World) (p : Option Addr) (t : Int) (h : Zq w p) : Calls Try.prog 18 #[.pointer p, .int .i64 t] w fun e w' => e = .returned (.int .i64 1) ∧ Kp w w' [] := by
  have HO := hid (lineOf_no w p t h)
  clear h
  go_enter Try.func18, Try.ntmps18
  go_wp2_with fail
  refine HO.out.mono ?_
  rintro e w1 ⟨rfl, hk⟩
  have HK := hid hk
  clear hk
  go_wp2_with fail
  refine (zlv w1 none t (zw_none w1)).mono ?_
  rintro e w2 ⟨rfl, hw⟩; obtain rfl := hw.symm
  go_wp2
  go_ret
  exact ⟨rfl, HK.out⟩
set_option maxRecDepth 100000 in
theorem change_no (w : World) (p : Option Addr) (t pr : Int) (h : Zq w p) : Calls Try.prog 19 #[.pointer p, .int .i64 t, .int .i64 pr] w fun e w' => e = .returned (.int .i64 1) ∧ Kp w w' [] := by
  have HO := hid (lineOf_no w p t h)
  clear h
  go_enter Try.func19, Try.ntmps19
  go_wp2_with fail
  refine HO.out.mono ?_
  rintro e w1 ⟨rfl, hk⟩
  have HK := hid hk
  clear hk
  go_wp2_with fail
  refine (zchg w1 none t pr (zw_none w1)).mono ?_
  rintro e w2 ⟨rfl, hw⟩; obtain rfl := hw.symm
  go_wp2
  go_ret
  exact ⟨rfl, HK.out⟩
theorem lv_in {L : List Dl} {t : Int} (h : lvE L t = 0) : 0 ≤ t ∧ t < 16 := by
  unfold lvE at h
  by_cases hm : mayT t = true
  · exact mayT_iff hm
  · rw [if_neg hm] at h
    cases h
set_option maxRecDepth 100000 in
theorem leave_s (h : Qc w qb R M) (t : Int) (ht : i64 t) (hq : hasP M.s t = true) : Calls Try.prog 18 #[.pointer (some ⟨qb, 0, none⟩), .int .i64 t] w fun e w' => e = .returned (.int .i64 (lvE M.s t)) ∧ To w w' qb R { M with s := lvL M.s t, f := if lvE M.s t = 0 then setF M.f t none else M.f } := by
  obtain ⟨mb, a, b, V, Ra, Rb, rfl, h⟩ := h
  have HO := lineOf_yes h t ht
  rw [hq] at HO
  have HO := hid HO
  have HL := hid (fun (z : World) (hk : Kp w z []) => (h.same hk).wa.lv t)
  have HS := hid (fun (z z2 : World) (L : List Dl) (R1 : List Nat) (hz : Kp w z []) (h1 : Wr z2 a R1 L) (hn : Nw z Ra R1) (hk : Kp z z2 Ra) => to_s (h.same hz) h1 hn hk)
  by_cases hE : lvE M.s t = 0
  · have HTI := hid (lv_in hE)
    rw [if_pos hE]
    rw [hE] at HL ⊢
    clear h hq ht hE
    go_enter Try.func18, Try.ntmps18
    go_wp2_with fail
    refine HO.out.mono ?_
    rintro e w1 ⟨rfl, hk⟩
    have K1 := hid hk
    clear hk
    go_wp2_with fail
    refine (HL.out _ K1.out).mono ?_
    rintro e w2 ⟨rfl, R1, h1, hn, hk⟩
    have hX := HS.out w1 w2 _ R1 K1.out h1 hn hk
    have d2 := hX.1.c2
    obtain ⟨w3, hrun, hm3, hk3, -⟩ := hX.1.mp.drop HTI.out 0
    have hF := to_map (M' := { M with s := lvL M.s t, f := setF M.f t none }) hX.1 hm3 hk3 rfl rfl rfl rfl
    have nk := nk_trans hX.2.1 hX.2.2 (Nw.refl _ _) hF.2
    have HF := hid (To.first K1.out (hF.1.to nk.1 nk.2))
    clear h1 hn hk hX hm3 hk3 hF nk
    go_wp2
    go_ret
    exact ⟨rfl, HF.out⟩
  · rw [if_neg hE]
    have hE0 : (lvE M.s t == 0) = false := by simpa using hE
    generalize lvE M.s t = E at *
    clear h hq ht hE
    go_enter Try.func18, Try.ntmps18
    go_wp2_with fail
    refine HO.out.mono ?_
    rintro e w1 ⟨rfl, hk⟩
    have K1 := hid hk
    clear hk
    go_wp2_with fail
    refine (HL.out _ K1.out).mono ?_
    rintro e w2 ⟨rfl, R1, h1, hn, hk⟩
    have hX := HS.out w1 w2 _ R1 K1.out h1 hn hk
    have HF := hid (To.first K1.out (hX.1.to hX.2.1 hX.2.2))
    clear h1 hn hk hX
    go_wp2
    go_ret
    exact ⟨rfl, HF.out⟩
set_option maxRecDepth 100000 in
theorem change_s (h : Qc w qb R M) (t pr : Int) (ht : i64 t) (hq : hasP M.s t = true) : Calls Try.prog 19 #[.pointer (some ⟨qb, 0, none⟩), .int .i64 t, .int .i64 pr] w fun e w' => e = .returned (.int .i64 (chgE M.s t pr)) ∧ To w w' qb R { M with s := chgL M.s t pr } := by
  obtain ⟨mb, a, b, V, Ra, Rb, rfl, h⟩ := h
  have HO := lineOf_yes h t ht
  rw [hq] at HO
  have HO := hid HO
  have HL := hid (fun (z : World) (hk : Kp w z []) => (h.same hk).wa.chg t pr)
  have HS := hid (fun (z z2 : World) (L : List Dl) (R1 : List Nat) (hz : Kp w z []) (h1 : Wr z2 a R1 L) (hn : Nw z Ra R1) (hk : Kp z z2 Ra) => to_s (h.same hz) h1 hn hk)
  generalize chgE M.s t pr = E at *
  clear h hq ht
  go_enter Try.func19, Try.ntmps19
  go_wp2_with fail
  refine HO.out.mono ?_
  rintro e w1 ⟨rfl, hk⟩
  have K1 := hid hk
  clear hk
  go_wp2_with fail
  refine (HL.out _ K1.out).mono ?_
  rintro e w2 ⟨rfl, R1, h1, hn, hk⟩
  have hX := HS.out w1 w2 _ R1 K1.out h1 hn hk
  have HF := hid (To.first K1.out (hX.1.to hX.2.1 hX.2.2))
  clear h1 hn hk hX
  go_wp2
  go_ret
  exact ⟨rfl, HF.out⟩
set_option maxRecDepth 100000 in
theorem leave_r (h : Qc w qb R M) (t : Int) (ht : i64 t) (hq : hasP M.s t = false) : Calls Try.prog 18 #[.pointer (some ⟨qb, 0, none⟩), .int .i64 t] w fun e w' => e = .returned (.int .i64 (lvE M.r t)) ∧ To w w' qb R { M with r := lvL M.r t, f := if lvE M.r t = 0 then setF M.f t none else M.f } := by
  obtain ⟨mb, a, b, V, Ra, Rb, rfl, h⟩ := h
  have HO := lineOf_yes h t ht
  rw [hq] at HO
  have HO := hid HO
  have HL := hid (fun (z : World) (hk : Kp w z []) => (h.same hk).wb.lv t)
  have HS := hid (fun (z z2 : World) (L : List Dl) (R1 : List Nat) (hz : Kp w z []) (h1 : Wr z2 b R1 L) (hn : Nw z Rb R1) (hk : Kp z z2 Rb) => to_r (h.same hz) h1 hn hk)
  by_cases hE : lvE M.r t = 0
  · have HTI := hid (lv_in hE)
    rw [if_pos hE]
    rw [hE] at HL ⊢
    clear h hq ht hE
    go_enter Try.func18, Try.ntmps18
    go_wp2_with fail
    refine HO.out.mono ?_
    rintro e w1 ⟨rfl, hk⟩
    have K1 := hid hk
    clear hk
    go_wp2_with fail
    refine (HL.out _ K1.out).mono ?_
    rintro e w2 ⟨rfl, R1, h1, hn, hk⟩
    have hX := HS.out w1 w2 _ R1 K1.out h1 hn hk
    have d2 := hX.1.c2
    obtain ⟨w3, hrun, hm3, hk3, -⟩ := hX.1.mp.drop HTI.out 0
    have hF := to_map (M' := { M with r := lvL M.r t, f := setF M.f t none }) hX.1 hm3 hk3 rfl rfl rfl rfl
    have nk := nk_trans hX.2.1 hX.2.2 (Nw.refl _ _) hF.2
    have HF := hid (To.first K1.out (hF.1.to nk.1 nk.2))
    clear h1 hn hk hX hm3 hk3 hF nk
    go_wp2
    go_ret
    exact ⟨rfl, HF.out⟩
  · rw [if_neg hE]
    have hE0 : (lvE M.r t == 0) = false := by simpa using hE
    generalize lvE M.r t = E at *
    clear h hq ht hE
    go_enter Try.func18, Try.ntmps18
    go_wp2_with fail
    refine HO.out.mono ?_
    rintro e w1 ⟨rfl, hk⟩
    have K1 := hid hk
    clear hk
    go_wp2_with fail
    refine (HL.out _ K1.out).mono ?_
    rintro e w2 ⟨rfl, R1, h1, hn, hk⟩
    have hX := HS.out w1 w2 _ R1 K1.out h1 hn hk
    have HF := hid (To.first K1.out (hX.1.to hX.2.1 hX.2.2))
    clear h1 hn hk hX
    go_wp2
    go_ret
    exact ⟨rfl, HF.out⟩
set_option maxRecDepth 100000 in
theorem change_r (h : Qc w qb R M) (t pr : Int) (ht : i64 t) (hq : hasP M.s t = false) : Calls Try.prog 19 #[.pointer (some ⟨qb, 0, none⟩), .int .i64 t, .int .i64 pr] w fun e w' => e = .returned (.int .i64 (chgE M.r t pr)) ∧ To w w' qb R { M with r := chgL M.r t pr } := by
  obtain ⟨mb, a, b, V, Ra, Rb, rfl, h⟩ := h
  have HO := lineOf_yes h t ht
  rw [hq] at HO
  have HO := hid HO
  have HL := hid (fun (z : World) (hk : Kp w z []) => (h.same hk).wb.chg t pr)
  have HS := hid (fun (z z2 : World) (L : List Dl) (R1 : List Nat) (hz : Kp w z []) (h1 : Wr z2 b R1 L) (hn : Nw z Rb R1) (hk : Kp z z2 Rb) => to_r (h.same hz) h1 hn hk)
  generalize chgE M.r t pr = E at *
  clear h hq ht
  go_enter Try.func19, Try.ntmps19
  go_wp2_with fail
  refine HO.out.mono ?_
  rintro e w1 ⟨rfl, hk⟩
  have K1 := hid hk
  clear hk
  go_wp2_with fail
  refine (HL.out _ K1.out).mono ?_
  rintro e w2 ⟨rfl, R1, h1, hn, hk⟩
  have hX := HS.out w1 w2 _ R1 K1.out h1 hn hk
  have HF := hid (To.first K1.out (hX.1.to hX.2.1 hX.2.2))
  clear h1 hn hk hX
  go_wp2
  go_ret
  exact ⟨rfl, HF.out⟩
/-- Leave. -/
theorem leave_yes (h : Qc w qb R M) (t : Int) (ht : i64 t) : Calls Try.prog 18 #[.pointer (some ⟨qb, 0, none⟩), .int .i64 t] w fun e w' => e = .returned (.int .i64 (leE M t)) ∧ To w w' qb R (leM M t) := by
  unfold leE leM
  cases hq : hasP M.s t with
  | true => exact leave_s h t ht hq
  | false => exact leave_r h t ht hq
/-- Change. -/
theorem change_yes (h : Qc w qb R M) (t pr : Int) (ht : i64 t) : Calls Try.prog 19 #[.pointer (some ⟨qb, 0, none⟩), .int .i64 t, .int .i64 pr] w fun e w' => e = .returned (.int .i64 (chE M t pr)) ∧ To w w' qb R (chM M t pr) := by
  unfold chE chM
  cases hq : hasP M.s t with
  | true => exact change_s h t pr ht hq
  | false => exact change_r h t pr ht hq
/-- Send, whole. -/
noncomputable def sendVV (M : Qs) (t p : Int) (m : Int × Int) : Value := if sendE M t p m = 0 then sendV M m else passed false (0, 0) 0
noncomputable def sendMM (M : Qs) (t p : Int) (m : Int × Int) : Qs := if sendE M t p m = 0 then sendM M t p m else M
noncomputable def recVV (M : Qs) (t p : Int) : Value := if recE M t p = 0 then recV M else passed false (0, 0) 0
noncomputable def recMM (M : Qs) (t p : Int) : Qs := if recE M t p = 0 then recM M t p else M
theorem send_yes (h : Qc w qb R M) (t pr : Int) (m : Int × Int) (ht : i64 t) : Calls Try.prog 15 #[.pointer (some ⟨qb, 0, none⟩), .int .i64 t, .int .i64 pr, .agg #[.int .i64 m.1, .int .i64 m.2]] w fun e w' => e = .returned (.tuple #[sendVV M t pr m, .int .i64 (sendE M t pr m)]) ∧ To w w' qb R (sendMM M t pr m) := by
  obtain ⟨m1, m2⟩ := m
  unfold sendVV sendMM
  by_cases hE : sendE M t pr (m1, m2) = 0
  · rw [if_pos hE, if_pos hE, hE]
    unfold sendV sendM
    cases hb : fstB M.r with
    | true => exact send_one h t pr m1 m2 ht hE hb
    | false =>
      cases hf : M.full with
      | true => exact send_three h t pr m1 m2 ht hE hb hf
      | false => exact send_two h t pr m1 m2 ht hE hb hf
  · rw [if_neg hE, if_neg hE]
    exact send_bad h t pr m1 m2 ht hE
theorem rec_yes (h : Qc w qb R M) (t pr : Int) (ht : i64 t) : Calls Try.prog 17 #[.pointer (some ⟨qb, 0, none⟩), .int .i64 t, .int .i64 pr] w fun e w' => e = .returned (.tuple #[recVV M t pr, .int .i64 (recE M t pr)]) ∧ To w w' qb R (recMM M t pr) := by
  unfold recVV recMM
  by_cases hE : recE M t pr = 0
  · rw [if_pos hE, if_pos hE, hE]
    unfold recV recM
    cases hL : M.L with
    | nil =>
      have := rec_one h t pr ht hE hL
      rw [hL] at this
      exact this
    | cons x Z =>
      obtain ⟨x1, x2⟩ := x
      exact rec_two h t pr ht hE x1 x2 Z hL
  · rw [if_neg hE, if_neg hE]
    exact rec_bad h t pr ht hE
end Go.Proofs.Ytllkopekfanfaaa

/- maps.Clone and maps.Equal at a map of messages. -/
namespace Go.Proofs.Ytllkopekfanfaaa
open Go.RowKit Go.Shelf Go.Lib Go.Sort Go.Maps
attribute [local go_sem] Oper.semAt_some

def Try.lMq_ren : Go.Shelf.Ren := ⟨fun | 5 => 57 | 7 => 79 | n => n, fun | 23 => 61 | 25 => 3 | 3 => 34 | 4 => 4 | 20 => 20 | n => n, fun | n => n⟩
theorem Try.lMq : Go.Proofs.SlLaysW.n5 Try.prog Try.lMq_ren := {
  mixed := by kernel_rfl
  f5 := ⟨Try.f57.name, by decide, Try.func57.trans (congrArg some (by kernel_rfl))⟩
  f7 := Try.func79.trans (congrArg some (by kernel_rfl))
  t4 := Try.underlying4
  a4 := Try.isAgg4
  z4 := Try.sizeOf4
  v4 := Try.zeroValue4
  t20 := Try.underlying20
  a20 := Try.isAgg20
  z20 := Try.sizeOf20
  v20 := Try.zeroValue20
  t23 := Try.underlying61
  a23 := Try.isAgg61
  z23 := Try.sizeOf61
  v23 := Try.zeroValue61 }
theorem mmclone_any (w : World) (b : Nat) (F : MF) (h : Mm w b F) : Calls Try.prog 57 #[.map (some b)] w fun e w' => e = .returned (.map (some w.heap.size)) ∧ Mm w' w.heap.size F ∧ Kp w w' [] := by
  obtain ⟨D, ho, hd⟩ := h
  refine (AnyW.maps_Clone_owns Try.lMq 3 _ b _ _ w ho).mono ?_
  rintro e w' ⟨rfl, h1, -, h2⟩
  exact ⟨rfl, ⟨D, h1, hd⟩, Kp.of_below h2⟩
/-- The same ones? -/
def eqF (F G : MF) : Bool := ks.all fun k => decide (F k = G k)
def cntF (F : MF) : Nat := (ks.filter fun k => (F k).isSome).length
theorem count_sub {p p' : Int → Bool} : ∀ {l : List Int}, (∀ k ∈ l, p k = true → p' k = true) → (l.filter p).length ≤ (l.filter p').length ∧ ((l.filter p).length = (l.filter p').length → ∀ k ∈ l, p' k = true → p k = true)
  | [], _ => by simp
  | k :: l, h => by
    obtain ⟨i1, i2⟩ := count_sub (l := l) (fun j hj => h j (by simp [hj]))
    have hk := h k (by simp)
    cases hp : p k with
    | true =>
      have hp' := hk hp
      rw [List.filter_cons_of_pos hp, List.filter_cons_of_pos hp']
      refine ⟨by simp; omega, fun e j hj hpj => ?_⟩
      rcases List.mem_cons.1 hj with rfl | hj
      · exact hp
      · exact i2 (by simp at e; omega) j hj hpj
    | false =>
      rw [List.filter_cons_of_neg (by simp [hp])]
      cases hp' : p' k with
      | true =>
        rw [List.filter_cons_of_pos hp']
        refine ⟨by simp; omega, fun e => ?_⟩
        simp at e
        omega
      | false =>
        rw [List.filter_cons_of_neg (by simp [hp'])]
        refine ⟨i1, fun e j hj hpj => ?_⟩
        rcases List.mem_cons.1 hj with rfl | hj
        · rw [hp'] at hpj; cases hpj
        · exact i2 e j hj hpj
theorem eqF_cnt {F G : MF} (h : eqF F G = true) : cntF F = cntF G := by
  unfold cntF
  congr 1
  apply List.filter_congr
  intro k hk
  have := List.all_eq_true.1 h k hk
  rw [of_decide_eq_true this]
theorem eqF_all {F G : MF} (hc : cntF F = cntF G) (h : ∀ t, 0 ≤ t ∧ t < 16 → (F t).isSome = true → F t = G t) : eqF F G = true := by
  refine List.all_eq_true.2 fun k hk => ?_
  have hk' := mem_ks.1 hk
  have := (count_sub (p := fun k => (F k).isSome) (p' := fun k => (G k).isSome) (l := ks) (fun j hj hp => by
    rw [← h j (mem_ks.1 hj) hp]
    exact hp)).2 hc k hk
  refine decide_eq_true ?_
  cases hF : (F k).isSome with
  | true => exact h k hk' hF
  | false =>
    cases hG : (G k).isSome with
    | true =>
      have := this hG
      rw [hF] at this
      cases this
    | false =>
      rw [Option.isSome_eq_false_iff, Option.isNone_iff_eq_none] at hF hG
      rw [hF, hG]
theorem eqF_no {F G : MF} {t : Int} (ht : 0 ≤ t ∧ t < 16) (h : F t ≠ G t) : eqF F G = false := by
  cases he : eqF F G with
  | false => rfl
  | true => exact absurd (of_decide_eq_true (List.all_eq_true.1 he t (mem_ks.2 ht))) h
theorem HD.came {D : DataW Value} {F : MF} (h : HD D F) {x c : Value} {l : Lit} {y : DataW Value × List MemPlace} (hk : keyOf Try.prog 3 x = some l) (hR : RM c = some y) (hat : ∀ z, D.atKey l z = y.1) : ∃ t m, (0 ≤ t ∧ t < 16) ∧ l = kt t ∧ x = .int .i64 t ∧ F t = some m ∧ c = mv m := by
  obtain ⟨t, ht, rfl⟩ := h.key l (has_true_of_atKey hat)
  have h1 := h.has t ht
  rw [has_true_of_atKey hat] at h1
  obtain ⟨m, hm⟩ := Option.isSome_iff_exists.1 h1.symm
  refine ⟨t, m, ht, rfl, keyed3.inj hk (kt_eq ht), hm, ?_⟩
  have h2 := h.at_ t m ht hm (.held c)
  rw [hat] at h2
  unfold RM at hR
  simp only [Option.some.injEq] at hR
  subst hR
  injection h2 with h2
theorem wpList_look2 {w : World} {ops : Array Oper} {rest : List Oper} {o : Oper} {a : Act} {Q : Exit → Act → World → Prop} (hg : o.guard = none) (m x : Operand) (hop : o.op = Op.lookup 61 m x true)
    (b : Nat) (kv v : Value) (hm : a.eval m = .map (some b)) (hx : a.eval x = kv) (h : (Instr.lookup 61 (.map (some b)) kv true).run Try.prog w = .ok v w)
    (hK : wpList Try.prog ops Q rest (a.put o.dst v) w) : wpList Try.prog ops Q (o :: rest) a w := by
  refine wpList_plain hg fun K' hK' => ?_
  unfold Oper.wp
  simp [execOp, hop, hm, hx, h, Result.andThen]
  exact hK' _ _ hK
set_option maxRecDepth 100000 in
set_option maxHeartbeats 2000000 in
/-- maps.Equal. -/
theorem mmequal_any (w : World) (b1 b2 : Nat) (F G : MF) (h1 : Mm w b1 F) (h2 : Mm w b2 G) :
    Calls Try.prog 41 #[.map (some b1), .map (some b2)] w fun e w' => e = .returned (.bool (eqF F G)) ∧ Kp w w' [] := by
  have l1 := h1.len 3
  have l2 := h2.len 3
  rw [show (ks.filter fun k => (F k).isSome).length = cntF F from rfl] at l1
  rw [show (ks.filter fun k => (G k).isSome).length = cntF G from rfl] at l2
  have H2 := hid h2
  obtain ⟨D, ho, hd⟩ := h1
  have HDD := hid hd
  obtain ⟨E, hE⟩ : ∃ E, eqF F G = E := ⟨_, rfl⟩
  rw [hE]
  have HE := hid hE
  by_cases hc : cntF F = cntF G
  · have hne : ((cntF F : Int) != (cntF G : Int)) = false := by simp [hc]
    have HC := hid hc
    clear h2 hd hE hc
    go_enter Try.func41, Try.ntmps41
    go_wp2_with (first | (at_range; refine wpList_range_own _ rfl _ 61 rfl 3 34 keyed3 Try.underlying61 RM b1 16 D rfl ho ?_; intro w0 hrg0 hg0 hs0) | fail)
    go_frame
    have HR0 := hid (show w0.ranges Try.prog 3 RM b1 w.heap.size 16 D (Maps.has D) (Maps.size D) ∧ Kp w w0 [] from ⟨hrg0, Kp.ofGrown hg0 (by simp)⟩)
    clear hrg0 hg0 hs0 ho l1 l2 hne
    go_loopw [] (fun wr => ∃ left cnt, Hid (wr.ranges Try.prog 3 RM b1 w.heap.size 16 D left cnt ∧ Kp w wr [] ∧ ∀ t, 0 ≤ t ∧ t < 16 → (F t).isSome = true → left (kt t) = false → F t = G t)) (fun wr => wr.rangeLeft b1 w.heap.size)
    case atStart => exact ⟨_, _, hid ⟨HR0.out.1, HR0.out.2, fun t ht hq hl => by
      rw [HDD.out.has t ht, hq] at hl
      cases hl⟩⟩
    case round =>
      obtain ⟨left, cnt, hR⟩ := hrel
      have hrg := hR.out.1
      clear HR0
      go_wp2_with (first | (at_next; refine wpList_next_ranges _ rfl _ rfl 3 keyed3 RM (fun v => v) (fun v => v) (fun key kl h => ⟨key, rfl⟩) (fun v y h => ⟨v, rfl⟩) b1 w.heap.size 16 D left cnt rfl hrg ?_ ?_) | fail)
      · intro hc0 hl0
        have F := hid (show E = true from by rw [← HE.out]; exact eqF_all HC.out fun t ht hq => hR.out.2.2 t ht hq (hl0 _))
        clear hrg hc0 hl0
        go_wp2
        go_ret
        exact ⟨by rw [F.out]; rfl, hR.out.2.1⟩
      · intro x c l y1 y2 w2 cnt2 hkx hlx hRy hat hrg2 hlt2 hg2 hs2 hen
        obtain ⟨t, m, ht, rfl, rfl, hF, rfl⟩ := HDD.out.came hkx hRy hat
        have hk2 : Kp w w2 [] := hR.out.2.1.past (Kp.ofGrown hg2 (rows := [w.heap.size]) (by simp)) (by intro j hj hl; simp at hj; omega)
        simp only [mv] at hen ⊢
        have kA := Kp.alloc w2 (.cells #[.int .i64 m.1, .int .i64 m.2] 34) []
        have hlk := (H2.out.keep (hk2.trans kA) (by simp)).look_ok ht
        have hr3 : (w2.alloc (.cells #[.int .i64 m.1, .int .i64 m.2] 34)).ranges Try.prog 3 RM b1 w.heap.size 16 D (fun z => left z && !z.sameKey (kt t)) cnt2 := hrg2.alloc _
        have HG := hid (And.intro hr3 (And.intro hlt2 (And.intro (hk2.trans kA) hrg)))
        have HT := hid ht
        have HFm := hid hF
        obtain ⟨m1, m2⟩ := m
        cases hG : G t with
        | none =>
          rw [hG, show mv ((none : Option (Int × Int)).getD (0, 0)) = .agg #[.int .i64 0, .int .i64 0] from rfl] at hlk
          simp only [Option.isSome_none] at hlk
          have F := hid (show E = false from by rw [← HE.out]; exact eqF_no ht (by rw [hF, hG]; simp))
          clear hrg2 hlt2 hg2 hs2 hr3 hk2 kA hkx hRy hat hF hR hrg ht hG
          go_wp2_with fail
          go_ret
          exact ⟨by rw [F.out]; rfl, HG.out.2.2.1.trans (Kp.alloc _ _ _)⟩
        | some m' =>
          obtain ⟨n1, n2⟩ := m'
          rw [hG, show mv ((some (n1, n2) : Option (Int × Int)).getD (0, 0)) = .agg #[.int .i64 n1, .int .i64 n2] from rfl] at hlk
          simp only [Option.isSome_some] at hlk
          have hnq := neq34 m1 m2 n1 n2
          cases hq : (m1 == n1 && m2 == n2) with
          | true =>
            rw [hq] at hnq
            have hmn : (m1, m2) = (n1, n2) := by
              simp at hq
              rw [hq.1, hq.2]
            have F := hid (show ∀ t', 0 ≤ t' ∧ t' < 16 → (F t').isSome = true → (left (kt t') && !(kt t').sameKey (kt t)) = false → F t' = G t' from fun t' a d e => by
              by_cases e' : t' = t
              · subst e'
                rw [hF, hG, hmn]
              · rw [sameKey_ne (kt_ne e')] at e
                exact hR.out.2.2 t' a d (by simpa using e))
            clear hrg2 hlt2 hg2 hs2 hr3 hk2 kA hkx hRy hat hF hR hrg ht hG hq hmn
            go_wp2_with fail
            have hr := HG.out.1.alloc (.cells #[.int .i64 n1, .int .i64 n2] 34)
            exact ⟨⟨_, cnt2, hid ⟨hr, HG.out.2.2.1.trans (Kp.alloc _ _ _), F.out⟩⟩, by rw [hr.left_eq, HG.out.2.2.2.left_eq]; exact HG.out.2.1⟩
          | false =>
            rw [hq] at hnq
            have F := hid (show E = false from by
              rw [← HE.out]
              refine eqF_no ht ?_
              rw [hF, hG]
              intro e
              simp at e
              simp [e.1, e.2] at hq)
            clear hrg2 hlt2 hg2 hs2 hr3 hk2 kA hkx hRy hat hF hR hrg ht hG hq
            go_wp2_with fail
            go_ret
            exact ⟨by rw [F.out]; rfl, HG.out.2.2.1.trans (Kp.alloc _ _ _)⟩
  · have hne : ((cntF F : Int) != (cntF G : Int)) = true := by simp; omega
    have HF := hid (show E = false from by
      cases hx : E with
      | false => rfl
      | true => rw [← HE.out] at hx; exact (hc (eqF_cnt hx)).elim)
    clear h2 hd hE hc ho
    go_enter Try.func41, Try.ntmps41
    go_wp2
    go_ret
    exact ⟨by rw [HF.out]; rfl, Kp.refl _ _⟩
end Go.Proofs.Ytllkopekfanfaaa
