/- Receive. -/
import Derived.BigQuiet
import Derived.Deep.RegionHeldLaw
import Derived.Deep.RegionWith
import Derived.Test.YtllkopekfanfaaaSo
namespace Go.Proofs.Ytllkopekfanfaaa
open Go.RowKit Go.Shelf Go.Lib Go.Sort Go.Maps
attribute [local go_sem] Oper.semAt_some

variable {w w' : World} {qb mb a b : Nat} {V : Value} {Ra Rb R : List Nat} {M : Qs}
theorem Bp.new1 (w : World) : Bp (w.alloc (.cells #[.bool false, .int .i64 0, .int .i64 0, .int .i64 0] 45)) w.heap.size false 0 0 0 := heap_alloc_new w _
set_option maxRecDepth 100000 in
theorem rec_no (w : World) (p : Option Addr) (t pr : Int) (h : Zq w p) : Calls Try.prog 17 #[.pointer p, .int .i64 t, .int .i64 pr] w fun e w' => e = .returned (.tuple #[passed false (0, 0) 0, .int .i64 1]) ∧ Kp w w' [] := by
  have K0 := hid (Kp.alloc w (.cells #[.bool false, .int .i64 0, .int .i64 0, .int .i64 0] 45) [])
  have p0 := hid (Bp.new1 w)
  have HR := hid (fun (z : World) (hk : Kp w z []) (m : Bool) => refusal_no z p t m (h.keep hk))
  have HA := hid (fun z => mayPrio_any z pr)
  generalize mayP pr = A at *
  rw [passed_zero]
  clear h
  go_enter Try.func17, Try.ntmps17
  go_wp2_with fail
  refine (HA.out _).mono ?_
  rintro e w1 ⟨rfl, hw⟩; obtain rfl := hw.symm
  go_wp2_with fail
  refine (HR.out _ K0.out _).mono ?_
  rintro e w1 ⟨rfl, hk⟩
  have HK := hid (K0.out.trans hk)
  have HB4 := hid (p0.out.keep hk (by simp))
  have q0 := HB4.out.c0
  have q1 := HB4.out.c1
  have q2 := HB4.out.c2
  have q3 := HB4.out.c3
  have q4 := HB4.out.fr
  clear hk
  go_wp2
  refine bodyPost_ret (results_cell_tmp rfl _ _ w.heap.size #[.bool false, .int .i64 0, .int .i64 0, .int .i64 0] (0, 0) rfl (HB4.out.set false 0 0 0) (size45 _ _ _ _)) rfl ?_
  exact ⟨rfl, HK.out.past (kp_set4 _ _ _ _ _ _) (fun k hk hl => by simp at hk; omega)⟩
set_option maxRecDepth 100000 in
theorem rec_bad (h : Qc w qb R M) (t pr : Int) (ht : i64 t) (hE : recE M t pr ≠ 0) : Calls Try.prog 17 #[.pointer (some ⟨qb, 0, none⟩), .int .i64 t, .int .i64 pr] w fun e w' => e = .returned (.tuple #[passed false (0, 0) 0, .int .i64 (recE M t pr)]) ∧ To w w' qb R M := by
  have K0 := hid (Kp.alloc w (.cells #[.bool false, .int .i64 0, .int .i64 0, .int .i64 0] 45) [])
  have p0 := hid (Bp.new1 w)
  have HR := hid (fun (z : World) (hk : Kp w z []) => refusal_yes (h.same hk) t (mayP pr) ht)
  have HA := hid (fun z => mayPrio_any z pr)
  have HF := hid (fun z (hk : Kp w z []) => To.stay h hk)
  unfold recE at hE ⊢
  have hE0 : (refE M t (mayP pr) == 0) = false := by simpa using hE
  generalize refE M t (mayP pr) = E at *
  generalize mayP pr = A at *
  rw [passed_zero]
  clear h hE
  go_enter Try.func17, Try.ntmps17
  go_wp2_with fail
  refine (HA.out _).mono ?_
  rintro e w1 ⟨rfl, hw⟩; obtain rfl := hw.symm
  go_wp2_with fail
  refine (HR.out _ K0.out).mono ?_
  rintro e w1 ⟨rfl, hk⟩
  have HK := hid (K0.out.trans hk)
  have HB4 := hid (p0.out.keep hk (by simp))
  have q0 := HB4.out.c0
  have q1 := HB4.out.c1
  have q2 := HB4.out.c2
  have q3 := HB4.out.c3
  have q4 := HB4.out.fr
  clear hk
  go_wp2
  refine bodyPost_ret (results_cell_tmp rfl _ _ w.heap.size #[.bool false, .int .i64 0, .int .i64 0, .int .i64 0] (0, 0) rfl (HB4.out.set false 0 0 0) (size45 _ _ _ _)) rfl ?_
  exact ⟨rfl, HF.out _ (HK.out.past (kp_set4 _ _ _ _ _ _) (fun k hk hl => by simp at hk; omega))⟩
set_option maxRecDepth 100000 in
set_option maxHeartbeats 1000000 in
/-- There is none. -/
theorem rec_one (h : Qc w qb R M) (t pr : Int) (ht : i64 t) (hE : recE M t pr = 0) (hL : M.L = []) : Calls Try.prog 17 #[.pointer (some ⟨qb, 0, none⟩), .int .i64 t, .int .i64 pr] w fun e w' => e = .returned (.tuple #[passed false (0, 0) (-1), .int .i64 0]) ∧ To w w' qb R { M with r := putL M.r t pr } := by
  have K0 := hid (Kp.alloc w (.cells #[.bool false, .int .i64 0, .int .i64 0, .int .i64 0] 45) [])
  have p0 := hid (Bp.new1 w)
  obtain ⟨e1, e2, e3, e4⟩ := ref_ok hE
  have HA := hid (fun z => mayPrio_any z pr)
  have hE' : refE M t true = 0 := by
    unfold recE at hE
    rw [e1] at hE
    exact hE
  have HR := hid (fun (z : World) (hk : Kp w z []) => refusal_yes (h.same hk) t true ht)
  simp only [e1, hE'] at HA HR
  have HT := hid (fun (z : World) (hk : Kp w z []) => take_qany z qb R M (h.same hk))
  have HRL := hid h.lt
  have HPE := hid (show putE M.r t pr = 0 by unfold putE; rw [e2, e1, e4]; rfl)
  rw [tail_nil hL, show M.L.headD (0, 0) = (0, 0) by rw [hL]; rfl, show (!M.L.isEmpty) = false by rw [hL]; rfl, mv_eq] at HT
  clear h hE hE'
  obtain ⟨s, hs⟩ : ∃ s, w.heap.size = s := ⟨_, rfl⟩
  obtain ⟨W0, hW0⟩ : ∃ W0, w.alloc (.cells #[.bool false, .int .i64 0, .int .i64 0, .int .i64 0] 45) = W0 := ⟨_, rfl⟩
  go_enter Try.func17, Try.ntmps17
  go_wp2_with fail
  simp only [hW0, hs] at K0 p0 ⊢
  refine (HA.out _).mono ?_
  rintro e w1 ⟨rfl, hw⟩; obtain rfl := hw.symm
  go_wp2_with fail
  refine (HR.out _ K0.out).mono ?_
  rintro e w1 ⟨rfl, hk⟩
  have K1 := hid (K0.out.trans hk)
  have P1 := hid (p0.out.keep hk (by simp))
  have HLT := hid (show s < w1.heap.size from lt_of_block P1.out)
  clear hk
  go_wp2_with fail
  refine (HT.out _ K1.out).mono ?_
  rintro e w2 ⟨rfl, R2, q2, n2, k2⟩
  have P2 := hid (P1.out.keep k2 (fun hm => by have := HRL.out _ hm; omega))
  have HNK := hid (And.intro n2 k2)
  obtain ⟨mb, a, b, V, Ra, Rb, rfl, h2⟩ := q2
  have HQ2 := hid h2
  have c4 := h2.c4
  have hl2 := lt_of_block h2.hh
  have HQ4 := hid (fun (z : World) (hz : Kp w2 z []) => (h2.same hz).c4)
  have HPT := hid (show ∀ z, Kp w2 z [] → Calls Try.prog 48 #[.pointer (some ⟨b, 0, none⟩), .int .i64 t, .int .i64 pr] z (fun e w' => e = .returned (.int .i64 0) ∧ ∃ R', Wr w' b R' (putL M.r t pr) ∧ Nw z Rb R' ∧ Kp z w' Rb) from fun z hz => ((h2.same hz).wb.put t pr).mono (fun e w' ⟨h1, h2⟩ => ⟨by rw [h1]; exact congrArg (fun x => Ending.returned (.int .i64 x)) HPE.out, h2⟩))
  have HLT2 := hid (show s < w2.heap.size from lt_of_block P2.out)
  clear n2 k2 h2
  go_wp2_with fail
  refine (HPT.out _ (Kp.alloc _ _ _)).mono ?_
  rintro e w3 ⟨rfl, R3, h3, n3, k3⟩
  have hX := to_r (HQ2.out.same (Kp.alloc w2 (.cells #[.int .i64 0, .int .i64 0] 34) [])) h3 n3 k3
  have hsr : s ∉ Rb := fun hm => by
    rcases HNK.out.1 s (by simp [hm]) with q | q
    · have := HRL.out s q
      omega
    · have := HLT.out
      omega
  have P3 := hid ((P2.out.keep (Kp.alloc w2 (.cells #[.int .i64 0, .int .i64 0] 34) []) (by simp)).keep k3 hsr)
  have q0 := P3.out.c0
  have q1 := P3.out.c1
  have q2 := P3.out.c2
  have q3 := P3.out.c3
  have q4 := P3.out.fr
  have nk := nk_trans HNK.out.1 (HNK.out.2.trans (Kp.alloc w2 (.cells #[.int .i64 0, .int .i64 0] 34) [] |>.nil)) hX.2.1 hX.2.2
  have HX := hid (hX.1.to nk.1 nk.2)
  clear h3 n3 k3 hX hsr nk
  go_wp2
  refine bodyPost_ret (results_cell_tmp rfl _ _ s #[.bool false, .int .i64 0, .int .i64 0, .int .i64 (-1)] (0, 0) rfl (P3.out.set false 0 0 (-1)) (size45 _ _ _ _)) rfl ?_
  exact ⟨rfl, fin_box HRL.out K1.out HX.out (by omega) HLT.out (kp_set4 _ _ _ _ _ _)⟩
set_option maxRecDepth 100000 in
set_option maxHeartbeats 1000000 in
/-- There is one. -/
theorem rec_two (h : Qc w qb R M) (t pr : Int) (ht : i64 t) (hE : recE M t pr = 0) (x1 x2 : Int) (Z : Ml) (hL : M.L = (x1, x2) :: Z) : Calls Try.prog 17 #[.pointer (some ⟨qb, 0, none⟩), .int .i64 t, .int .i64 pr] w fun e w' => e = .returned (.tuple #[passed true (x1, x2) (letT M), .int .i64 0]) ∧ To w w' qb R (letM { M with L := Z }) := by
  have K0 := hid (Kp.alloc w (.cells #[.bool false, .int .i64 0, .int .i64 0, .int .i64 0] 45) [])
  have p0 := hid (Bp.new1 w)
  obtain ⟨e1, e2, e3, e4⟩ := ref_ok hE
  have HA := hid (fun z => mayPrio_any z pr)
  have hE' : refE M t true = 0 := by
    unfold recE at hE
    rw [e1] at hE
    exact hE
  have HR := hid (fun (z : World) (hk : Kp w z []) => refusal_yes (h.same hk) t true ht)
  simp only [e1, hE'] at HA HR
  have HT := hid (fun (z : World) (hk : Kp w z []) => take_qany z qb R M (h.same hk))
  have HRL := hid h.lt
  have HLM := hid (show (Z.length : Int) < M.n by
    obtain ⟨mb, a, b, V, Ra, Rb, rfl, h⟩ := h
    have := h.len
    rw [hL] at this
    simp at this
    omega)
  rw [show M.L.headD (0, 0) = (x1, x2) by rw [hL]; rfl, show (!M.L.isEmpty) = true by rw [hL]; rfl, show M.L.tail = Z by rw [hL]; rfl, mv_eq] at HT
  simp only at HT
  clear h hE hE'
  obtain ⟨s, hs⟩ : ∃ s, w.heap.size = s := ⟨_, rfl⟩
  obtain ⟨W0, hW0⟩ : ∃ W0, w.alloc (.cells #[.bool false, .int .i64 0, .int .i64 0, .int .i64 0] 45) = W0 := ⟨_, rfl⟩
  go_enter Try.func17, Try.ntmps17
  go_wp2_with fail
  simp only [hW0, hs] at K0 p0 ⊢
  refine (HA.out _).mono ?_
  rintro e w1 ⟨rfl, hw⟩; obtain rfl := hw.symm
  go_wp2_with fail
  refine (HR.out _ K0.out).mono ?_
  rintro e w1 ⟨rfl, hk⟩
  have K1 := hid (K0.out.trans hk)
  have P1 := hid (p0.out.keep hk (by simp))
  have HLT := hid (show s < w1.heap.size from lt_of_block P1.out)
  clear hk
  go_wp2_with fail
  refine (HT.out _ K1.out).mono ?_
  rintro e w2 ⟨rfl, R2, q2, n2, k2⟩
  have P2 := hid (P1.out.keep k2 (fun hm => by have := HRL.out _ hm; omega))
  have HNK := hid (And.intro n2 k2)
  have HPT := hid (fun (z : World) (hz : Kp w2 z []) => letIn_any (q2.same hz) HLM.out)
  rw [show letT ({ M with L := Z } : Qs) = letT M from rfl] at HPT
  have HLT2 := hid (show s < w2.heap.size from lt_of_block P2.out)
  generalize letT M = T at HPT ⊢
  have HSR := hid (show s ∉ R2 from fun hm => by
    rcases n2 s hm with q | q
    · have := HRL.out s q
      omega
    · have := HLT.out
      omega)
  have HQT := hid q2.lt
  clear n2 k2 q2
  have HQL := hid (show s ∉ R2 ∧ w2.heap.size ∉ R2 from ⟨HSR.out, fun hm => by have := HQT.out _ hm; omega⟩)
  have BF := hid (Bm.new w2 (x1, x2))
  have PF := hid (P2.out.keep (Kp.alloc w2 (.cells #[.int .i64 x1, .int .i64 x2] 34) []) (by simp))
  go_wp2_with fail
  go_region_with (go_at_call 51; refine (HPT.out _ (by exact (Kp.alloc w2 (.cells #[.int .i64 x1, .int .i64 x2] 34) []).trans (Kp.drew _ _))).mono ?_; rintro e w3 ⟨rfl, R3, h3, n3, k3⟩; have P3 := hid ((PF.out.keep (Kp.drew _ []) (by simp)).keep k3 HQL.out.1); have b3 := (BF.out.keep (Kp.drew _ []) (by simp)).keep k3 HQL.out.2; have g0 := cell_two0 b3; have g1 := cell_two1 b3; have q0 := P3.out.c0; have q1 := P3.out.c1; have q2 := P3.out.c2; have q3 := P3.out.c3; have q4 := P3.out.fr; have nk := nk_trans HNK.out.1 (HNK.out.2.trans ((Kp.alloc w2 (.cells #[.int .i64 x1, .int .i64 x2] 34) []).trans (Kp.drew _ []) |>.nil)) n3 k3; have HX := hid (show To w1 w3 qb R (letM { M with L := Z }) from ⟨R3, h3, nk.1, nk.2⟩); clear h3 n3 k3 nk b3)
  all_goals (
    go_wp2_with fail
    refine bodyPost_ret (results_cell_tmp rfl _ _ s #[.bool true, .int .i64 x1, .int .i64 x2, .int .i64 T] (0, 0) rfl (P3.out.set true x1 x2 T) (size45 _ _ _ _)) rfl ?_
    exact ⟨by kernel_rfl, fin_box HRL.out K1.out HX.out (by omega) HLT.out (kp_set4 _ _ _ _ _ _)⟩)
end Go.Proofs.Ytllkopekfanfaaa
