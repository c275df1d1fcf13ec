/- Send, of a signal that queues. -/
import Derived.Test.YtoenipaccnpihaaSd
namespace Go.Proofs.Ytoenipaccnpihaa
open Go.RowKit Go.Shelf Go.Sort Go.Maps
open Go.Lib hiding intOf
attribute [local go_sem] Oper.semAt_some

theorem wp_app {w : World} {o : Oper} {a : Act} {K : Act → World → Prop} {Q : Exit → Act → World → Prop} (s x : Operand) (ho : o.op = .call { callee := .builtin .append, args := #[s, x], argTypes := #[43, 43] }) (V X v' : Value) (w' : World) (hs : a.eval s = V) (hx : a.eval x = X) (hrun : (Builtin.append_ #[43, 43] o.type #[V, X]).run Try.prog w = .ok v' w') (h : K (a.put o.dst v') w') : o.wp Try.prog a w K Q := by
  unfold Oper.wp execOp
  simp only [ho, resolve, invoke, builtin, Sem.run_bind, Sem.run_pure, Result.andThen_ok, List.map_toArray, List.map_cons, List.map_nil, hs, hx, hrun]
  exact h
set_option maxRecDepth 100000 in
set_option maxHeartbeats 2000000 in
theorem send_queue (w : World) (sb : Nat) (R : List Nat) (T S : Nat) (M : Nat → Nat) (L : El) (t n : Nat) (v : Int) (h : Sg w sb R T S M L) (ht : t < T) (h16 : 16 ≤ n) (h31 : n ≤ 31) (hu : used L < S) : Calls Try.prog 15 #[.pointer (some ⟨sb, 0, none⟩), .int .i64 t, .int .i64 n, .int .i64 v] w fun e w' => e = .returned (.int .i64 0) ∧ To w w' sb R T S M (L ++ [(t, n, v)]) := by
  have H := hid (zero_no w sb R T S M L h)
  have K := has_any w sb R T S M L t h
  rw [inT_nat, decide_eq_true ht] at K
  have K := hid K
  have MS := maysig_any w n
  rw [show maySig n = true by simp [maySig]; omega] at MS
  have MS := hid MS
  have DQ := hid (fun w => queues_any w n)
  have hd : decide (15 < (n : Int)) = true := by simp; omega
  rw [hd] at DQ
  have HU := hid (fun (z : World) (hk : Kp w z []) => used_any z sb R T S M L (h.same hk))
  have CS := hid (fun (z : World) (hk : Kp w z []) => hk.cell (show w.cell? ⟨sb, 1, none⟩ = some (.int .i64 (S : Nat)) from by obtain ⟨mb, g, cap, h⟩ := h; exact h.c.slt) (by simp))
  have he : ((used L : Int) == S) = false := by simp; omega
  have t2 := h.bd.1.2
  have hb := or_bits (h.pp t) (bit_lt (k := n) (by omega))
  rw [← pow_cast] at hb
  have KB := hid (fun w => bit_any w n (by omega))
  have hlen : (q L t n).length ≤ 1000000 := by
    have h1 := used_sum L fun x hx => by have := h.ok.inn x hx; omega
    have h2 := h.bd.2.2
    have h3 : lenQ L (t, n) ≤ (ks.map (lenQ L)).sum := by
      have := sum_upd (f := fun k => if k = (t, n) then 0 else lenQ L k) (f' := lenQ L) (k0 := (t, n)) (c := lenQ L (t, n)) nodup_ks (mem_ks.2 ⟨by simp; omega, by simp; omega⟩) (fun k _ hne => by simp [hne]) (by simp)
      omega
    have : lenQ L (t, n) = (q L t n).length := by simp [lenQ, h16]
    omega
  obtain ⟨mb, g, cap, h⟩ := h
  have ht16 : t < 16 := by omega
  have ht16i : (t : Int) < 16 := by omega
  have HH := hid h
  have HQ := hid (And.intro ht (And.intro h16 (And.intro h31 hu)))
  have HL := hid hlen
  generalize hz : pend L t ||| 2 ^ n = z at hb
  generalize hx : pend L t = x at hb
  have HZ := hid (And.intro hz hx)
  clear h ht h16 h31 hu hd hlen hz hx
  go_enter Try.func15, Try.ntmps15
  go_wp2_with fail
  refine H.out.mono ?_
  rintro e w1 ⟨rfl, hw⟩; obtain rfl := hw.symm
  go_wp2_with fail
  refine K.out.mono ?_
  rintro e w1 ⟨rfl, hw⟩; obtain rfl := hw.symm
  go_wp2_with fail
  refine MS.out.mono ?_
  rintro e w1 ⟨rfl, hw⟩; obtain rfl := hw.symm
  clear H K MS
  go_wp2_with fail
  go_region_held_law (fun w1 => w1.cell? ⟨sb, 1, none⟩ = some (.int .i64 (S : Nat)))
    (first | exact CS.out _ (Kp.drew _ _) | exact CS.out _ ((Kp.drew _ _).trans hk1))
    (first | (go_at_call 41; refine (DQ.out _).mono ?_; rintro e wr ⟨rfl, hw⟩; obtain rfl := hw.symm) | (go_at_call 17; refine (HU.out _ (Kp.drew _ _)).mono ?_; rintro e z1 ⟨rfl, hk1⟩) | fail)
  have KU := hid ((Kp.drew w []).trans hk1)
  clear hk1
  go_wp2_with fail
  refine (DQ.out _).mono ?_
  rintro e wr ⟨rfl, hw⟩; obtain rfl := hw.symm
  go_wp2
  have ka := Kp.alloc z1 (.cells #[.int .i64 (t : Nat), .int .i64 (n : Nat)] 78) []
  have d0 := cell_two0 (heap_alloc_new z1 (.cells #[.int .i64 (t : Nat), .int .i64 (n : Nat)] 78))
  have d1 := cell_two1 (heap_alloc_new z1 (.cells #[.int .i64 (t : Nat), .int .i64 (n : Nat)] 78))
  have hzs : w.heap.size ≤ z1.heap.size := KU.out.size
  have KW := hid (KU.out.trans ka)
  obtain ⟨W0, hW0⟩ : ∃ W0, z1.alloc (.cells #[.int .i64 (t : Nat), .int .i64 (n : Nat)] 78) = W0 := ⟨_, rfl⟩
  rw [hW0] at KW d0 d1 ⊢
  have hW0s : W0.heap.size = z1.heap.size + 1 := by rw [← hW0]; simp
  clear hW0 ka
  obtain ⟨WB, hWB⟩ : ∃ WB, W0.drew.alloc (.cells #[.int .i64 v] 2) = WB := ⟨_, rfl⟩
  have kB : Kp W0 WB [] := by rw [← hWB]; exact (Kp.drew _ _).trans (Kp.alloc _ _ _)
  have nB : Ns WB 0 (.slice (some ⟨W0.heap.size, 0, none⟩) 1 1) [v] := by rw [← hWB]; exact (Ns.one W0.drew v).low (Nat.zero_le _)
  have hWBs : W0.heap.size < WB.heap.size := by rw [← hWB]; simp
  obtain ⟨st, w1, hE, k1, s1, hst⟩ := (HH.out.m.keep (KW.out.trans kB) (by simp)).entry (t := t) (n := n) ht16 (by have := HQ.out.2.2.1; omega)
  obtain ⟨V, hV⟩ : ∃ V, (Fq L g cap t n).getD (.slice none 0 0) = V := ⟨_, rfl⟩
  rw [hV] at hE
  have hmlt := HH.out.lt _ HH.out.mR
  have hslt := HH.out.lt _ HH.out.sR
  have hne := HH.out.ne
  have hVb : V.ownBlock = none ∨ (q L t n ≠ [] ∧ V.ownBlock = some (g t n)) := by
    by_cases hq : q L t n = []
    · left
      rw [← hV]
      unfold Fq
      rw [if_neg (by simp [hq])]
      rfl
    · right
      rw [← hV, Fq_yes HQ.out.2.1 hq]
      exact ⟨hq, rfl⟩
  have hVm : mb ∉ V.ownBlock.toList ∧ sb ∉ V.ownBlock.toList ∧ z1.heap.size ∉ V.ownBlock.toList := by
    rcases hVb with e | ⟨hq, e⟩
    · simp [e]
    · have := HH.out.lt _ (HH.out.row t n HQ.out.2.1 hq).2
      have h2 := hne.2 t n HQ.out.2.1 hq
      simp [e]
      exact ⟨fun e' => h2.2 e'.symm, fun e' => h2.1 e'.symm, by omega⟩
  have nV : Ns w1 0 V (q L t n) := by
    have : Ns w 0 V (q L t n) := by
      by_cases hq : q L t n = []
      · rw [← hV]
        unfold Fq
        rw [if_neg (by simp [hq]), hq]
        exact Ns.nil _ _
      · rw [← hV, Fq_yes HQ.out.2.1 hq]
        exact (HH.out.row t n HQ.out.2.1 hq).1
    refine (this.keep (KW.out.trans kB)).kp k1 (fun g' hg' hm => ?_)
    simp at hm
    subst hm
    exact hVm.1 (by simp [hg'])
  have nX : Ns w1 0 (.slice (some ⟨W0.heap.size, 0, none⟩) 1 1) [v] := nB.kp k1 (fun g' hg' hm => by
    simp [Value.ownBlock] at hg' hm
    have := KW.out.size
    omega)
  obtain ⟨V', w2, hA, nV', hG, hat⟩ := push_where 43 V (q L t n) nV ⟨W0.heap.size, 0, none⟩ [v] 1 nX (by simp) HL.out (by simp)
  obtain ⟨w3, hS3, hm3, k3, -⟩ := hst w2 V' (hG.block mb (Nat.lt_of_lt_of_le (Nat.lt_of_lt_of_le hmlt (Nat.le_trans KW.out.size kB.size)) k1.size) (fun e => hVm.1 (by simp [← e])))
  have kG : Kp w1 w2 V.ownBlock.toList := Kp.ofGrown hG (by intro g' hg'; simp [hg'])
  have HS := hid (fun (z : World) (hk : Kp W0 z (mb :: V.ownBlock.toList)) => And.intro (hk.cell (KW.out.cell HH.out.c.mp (by simp)) (by simp; exact ⟨hne.1, by simpa using hVm.2.1⟩)) (And.intro (hk.cell d0 (by simp; exact ⟨by omega, by simpa using hVm.2.2⟩)) (hk.cell d1 (by simp; exact ⟨by omega, by simpa using hVm.2.2⟩))))
  have k2 : Kp W0 w1 (mb :: V.ownBlock.toList) := kB.nil.trans (k1.mono (by simp))
  have k4 : Kp W0 w2 (mb :: V.ownBlock.toList) := k2.trans (kG.mono (by intro k hk _; simp at hk ⊢; exact .inr hk))
  have k5 : Kp W0 w3 (mb :: V.ownBlock.toList) := k4.trans (k3.mono (by simp))
  have hE' : (Instr.mapEntry 59 (.map (some mb)) (.agg #[.int .i64 (t : Nat), .int .i64 (n : Nat)])).run Try.prog WB = .ok (.tuple #[V, .int .i64 st]) w1 := hE
  have HTO := hid (HH.out.push (w1 := w1) (w2 := w2) (w3 := w3) HQ.out.1 HQ.out.2.1 HQ.out.2.2.1 HQ.out.2.2.2 hV (((KW.out.trans kB).nil).trans k1) nV' hG hat hm3 k3)
  have HK := hid (And.intro (show Kp W0 WB (mb :: V.ownBlock.toList) from kB.nil) (And.intro k2 (And.intro k4 k5)))
  have HP := hid (show w3.cell? ⟨sb, 18 + t, none⟩ = some (.int .u32 ((pend L t : Nat) : Int)) ∧ w3.frozen? ⟨sb, 18 + t, none⟩ = false from by
    have c3 := ((HH.out.c.keep KW.out (by simp)).keep k5 (by simp; exact ⟨hne.1, by simpa using hVm.2.1⟩))
    exact ⟨c3.ps ht16, c3.free _⟩)
  have HA := hid (show (Builtin.append_ #[43, 43] 43 #[V, .slice (some ⟨W0.heap.size, 0, none⟩) 1 1]).run Try.prog w1 = .ok V' w2 from hA)
  clear hA
  clear hW0s hst nV nX nB hVb hVm hG hat hm3 k3 kG k2 k4 k5 hE nV' k1 kB hV
  go_region_held_law (fun w1 => w1.cell? ⟨sb, 34, none⟩ = some (.map (some mb)) ∧ w1.cell? ⟨z1.heap.size, 0, none⟩ = some (.int .i64 (t : Nat)) ∧ w1.cell? ⟨z1.heap.size, 1, none⟩ = some (.int .i64 (n : Nat)))
    (first | exact HS.out _ (Kp.drew _ _) | exact HS.out _ HK.out.1 | exact HS.out _ HK.out.2.1 | exact HS.out _ HK.out.2.2.1 | exact HS.out _ HK.out.2.2.2)
    (first | (refine step_in (by rfl) (wp_app _ _ (by rfl) V (.slice (some ⟨W0.heap.size, 0, none⟩) 1 1) V' w2 (by rfl) (by rfl) HA.out ?_)) | fail)
  obtain ⟨cp, hfz⟩ := HP.out
  rw [HZ.out.2] at cp
  have HT := hid (show To w (w3.setCell ⟨sb, 18 + t, none⟩ (.int .u32 (z : Nat))) sb R T S M (L ++ [(t, n, v)]) from HZ.out.1 ▸ HTO.out)
  clear HP HZ HTO HA HK HS HH HQ HL hE' hS3 KW d0 d1 hWB hWBs hmlt hslt hne KU
  go_wp2_with fail
  go_region_with (go_at_call 42; refine (KB.out _).mono ?_; rintro e wr ⟨rfl, hw⟩; obtain rfl := hw.symm)
  all_goals go_wp2
  all_goals go_ret
  all_goals exact ⟨rfl, HT.out.drew⟩
theorem maySig_yes {n : Int} (h : maySig n = true) : ∃ k : Nat, n = k ∧ 1 ≤ k ∧ k ≤ 31 := by
  simp [maySig] at h
  exact ⟨n.toNat, by omega, by omega, by omega⟩
/-- Send, whatever it is given. -/
theorem send_any (w : World) (sb : Nat) (R : List Nat) (T S : Nat) (M : Nat → Nat) (L : El) (t n v : Int) (h : Sg w sb R T S M L) : Calls Try.prog 15 #[.pointer (some ⟨sb, 0, none⟩), .int .i64 t, .int .i64 n, .int .i64 v] w fun e w' => e = .returned (.int .i64 (sendE T S L t n)) ∧ To w w' sb R T S M (sendL T S L t n v) := by
  unfold sendE sendL
  cases ha : inT T t && maySig n with
  | false =>
    rw [if_neg (by simp), if_neg (by simp)]
    refine (send_arg w sb R T S M L t n v h ha).mono ?_
    rintro e w' ⟨rfl, hk⟩
    exact ⟨rfl, To.stay h hk⟩
  | true =>
    rw [if_pos rfl, if_pos rfl]
    simp only [Bool.and_eq_true] at ha
    obtain ⟨k, rfl, hk⟩ := inT_yes ha.1
    obtain ⟨m, rfl, h1, h31⟩ := maySig_yes ha.2
    rw [Int.toNat_natCast, Int.toNat_natCast]
    by_cases h16 : 15 < m
    · have h16i : (15 : Int) < m := by omega
      rw [if_pos h16i]
      by_cases hu : used L = S
      · rw [if_pos ⟨h16i, hu⟩, if_pos hu]
        refine (send_full w sb R T S M L k m v h hk (by omega) h31 hu).mono ?_
        rintro e w' ⟨rfl, hk⟩
        exact ⟨rfl, To.stay h hk⟩
      · rw [if_neg (fun e => hu e.2), if_neg hu]
        exact send_queue w sb R T S M L k m v h hk (by omega) h31 (by have := h.ok.few; omega)
    · have h16i : ¬ (15 : Int) < m := by omega
      rw [if_neg (fun e => h16i e.1), if_neg h16i]
      exact send_plain w sb R T S M L k m v h hk h1 (by omega)
end Go.Proofs.Ytoenipaccnpihaa
