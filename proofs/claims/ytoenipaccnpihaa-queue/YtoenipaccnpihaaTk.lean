/- take: the first one of its number. -/
import Derived.Test.YtoenipaccnpihaaPe
namespace Go.Proofs.Ytoenipaccnpihaa
open Go.RowKit Go.Shelf Go.Sort Go.Maps
open Go.Lib hiding intOf
attribute [local go_sem] Oper.semAt_some

section
variable {w : World} {ops : Array Oper} {o : Oper} {a : Act} {K : Act → World → Prop} {Q : Exit → Act → World → Prop} {E : Prop}
theorem step_in (hgd : o.guard = none) (h : Oper.wp Try.prog o a w K Q) : if Region.wanted o (yielded ops a.tmps) = true then Oper.wp Try.prog o a w K Q else E := by
  have hw : Region.wanted o (yielded ops a.tmps) = true := by simp [Region.wanted, hgd]
  rw [if_pos hw]
  exact h
theorem wp_look (m x : Operand) (c : Bool) (ho : o.op = Op.lookup 59 m x c) (b : Nat) (kv v : Value) (hm : a.eval m = .map (some b)) (hx : a.eval x = kv) (hrun : (Instr.lookup 59 (.map (some b)) kv c).run Try.prog w = .ok v w) (h : K (a.put o.dst v) w) : o.wp Try.prog a w K Q := by
  unfold Oper.wp
  simp [execOp, ho, hm, hx, hrun, Result.andThen]
  exact h
theorem wp_del (m x : Operand) (ho : o.op = Op.call { callee := Callee.builtin Builtin.delete, args := #[m, x], argTypes := #[59, 78] }) (b : Nat) (kv : Value) (w' : World) (hm : a.eval m = .map (some b)) (hx : a.eval x = kv) (hrun : (Builtin.delete_ #[59, 78] o.type #[.map (some b), kv]).run Try.prog w = .ok (.tuple #[]) w') (h : K (a.put o.dst (.tuple #[])) w') : o.wp Try.prog a w K Q := by
  unfold Oper.wp
  simp [execOp, ho, resolve, invoke, builtin, hm, hx, hrun, Result.andThen]
  exact h
theorem wp_upd (m x y : Operand) (ho : o.op = Op.mapUpdate 59 m x y) (b : Nat) (kv v : Value) (w' : World) (hm : a.eval m = .map (some b)) (hx : a.eval x = kv) (hy : a.eval y = v) (hrun : (Instr.mapUpdate 59 (.map (some b)) kv v).run Try.prog w = .ok () w') (h : K (a.put o.dst undef) w') : o.wp Try.prog a w K Q := by
  unfold Oper.wp
  simp [execOp, ho, hm, hx, hy, hrun, Result.andThen]
  exact h
end
theorem cell_two0 {w : World} {r : Nat} {u v : Value} {t : TypeId} (h : w.heap[r]? = some (.cells #[u, v] t (0, 0))) : w.cell? ⟨r, 0, none⟩ = some u := by simp [World.cell?, h]
theorem cell_two1 {w : World} {r : Nat} {u v : Value} {t : TypeId} (h : w.heap[r]? = some (.cells #[u, v] t (0, 0))) : w.cell? ⟨r, 1, none⟩ = some v := by simp [World.cell?, h]
/-- What a call leaves that makes no block of theirs. -/
def Ts (w w' : World) (sb : Nat) (R : List Nat) (T S : Nat) (M : Nat → Nat) (L : El) : Prop := Sg w' sb R T S M L ∧ Kp w w' R
theorem Ts.to {w w' : World} {sb : Nat} {R : List Nat} {T S : Nat} {M : Nat → Nat} {L : El} (h : Ts w w' sb R T S M L) : To w w' sb R T S M L := ⟨R, h.1, Nw.refl _ _, h.2⟩
theorem Ts.drew {w w' : World} {sb : Nat} {R : List Nat} {T S : Nat} {M : Nat → Nat} {L : El} (h : Ts w w' sb R T S M L) : Ts w w'.drew sb R T S M L := ⟨h.1.same (Kp.drew _ _), h.2.trans (Kp.drew _ _)⟩
/-- What is left when one was taken that was the last of its number. -/
theorem Sp.drop {w w1 : World} {sb : Nat} {R : List Nat} {T S : Nat} {M : Nat → Nat} {L : El} {mb : Nat} {g cap : Nat → Nat → Nat} (h : Sp w sb R T S M L mb g cap) {t n : Nat} (ht : t < 16) (hq : q L t n ≠ []) (h1 : (q L t n).length ≤ 1)
    (hm : Mq w1 mb (setF (Fq L g cap) t n none)) (hk : Kp w w1 [mb]) : Ts w (w1.setCell ⟨sb, 18 + t, none⟩ (.int .u32 (noB (pend L t) (2 ^ n) : Nat))) sb R T S M (rm L t n) := by
  have hne := h.ne
  have hn := h.ok.qin hq
  have c1 := (h.c.keep hk (by simp; exact hne.1)).setP ht (noB (pend L t) (2 ^ n))
  have k2 := Kp.setCell w1 ⟨sb, 18 + t, none⟩ (.int .u32 (noB (pend L t) (2 ^ n) : Nat))
  have k12 : Kp w (w1.setCell ⟨sb, 18 + t, none⟩ (.int .u32 (noB (pend L t) (2 ^ n) : Nat))) [mb, sb] := (hk.mono (by simp)).trans (k2.mono (by simp))
  have hpp : upd (pend L) t (noB (pend L t) (2 ^ n)) = pend (rm L t n) := by
    funext t'
    unfold upd
    split
    · rename_i e
      subst e
      apply Nat.eq_of_testBit_eq
      intro k
      rw [noB_bit (h.ok.pend t') (by omega), pend_rm L t' n h1]
    · rename_i e
      rw [pend_rm_other L t n t' e]
  rw [hpp] at c1
  refine ⟨⟨mb, g, cap, c1, (hm.keep k2 (by simp; exact fun e => hne.1 e.symm)).congr (fun t' n' _ _ => ?_), fun t' n' hn' hq' => ?_, fun t1 n1 t2 n2 a1 a2 a3 a4 e => ?_, h.sR, h.mR, fun j hj => Nat.lt_of_lt_of_le (h.lt j hj) k12.size, h.ok.rm t n, h.t1, h.t2, h.s1, h.s2, h.mm⟩, k12.mono (by
    intro k hk' _
    simp at hk'
    rcases hk' with rfl | rfl
    · exact h.mR
    · exact h.sR)⟩
  · unfold setF Fq
    rw [q_rm]
    by_cases e : t' = t ∧ n' = n
    · obtain ⟨rfl, rfl⟩ := e
      have : (q L t' n').tail = [] := by
        match hc : q L t' n' with
        | [] => rfl
        | [a] => rfl
        | a :: b :: r => rw [hc] at h1; simp at h1
      rw [if_pos ⟨rfl, rfl⟩]
      simp [this]
    · rw [if_neg e, if_neg e]
  · rw [q_rm] at hq' ⊢
    by_cases e : t' = t ∧ n' = n
    · rw [if_pos e] at hq'
      exfalso
      apply hq'
      match hc : q L t n with
      | [] => rfl
      | [a] => rfl
      | a :: b :: r => rw [hc] at h1; simp at h1
    · rw [if_neg e] at hq' ⊢
      have := h.row t' n' hn' hq'
      have h2 := hne.2 t' n' hn' hq'
      exact ⟨this.1.kp k12 (fun g' hg => by
        simp [Value.ownBlock] at hg
        subst hg
        simp
        exact ⟨h2.2, h2.1⟩), this.2⟩
  · have sub : ∀ t' n', q (rm L t n) t' n' ≠ [] → q L t' n' ≠ [] := fun t' n' hh => by
      obtain ⟨x, hx, e⟩ := q_ne.1 hh
      exact q_ne.2 ⟨x, rm_mem hx, e⟩
    exact h.inj t1 n1 t2 n2 a1 (sub _ _ a2) a3 (sub _ _ a4) e
set_option maxRecDepth 100000 in
set_option maxHeartbeats 1000000 in
theorem take_last (w : World) (sb : Nat) (R : List Nat) (T S : Nat) (M : Nat → Nat) (L : El) (t n : Nat) (h : Sg w sb R T S M L) (ht : t < T) (hq : q L t n ≠ []) (h1 : n < 16 ∨ (q L t n).length ≤ 1) : Calls Try.prog 43 #[.pointer (some ⟨sb, 0, none⟩), .int .i64 t, .int .i64 n] w fun e w' => e = .returned (.tuple #[]) ∧ Ts w w' sb R T S M (rm L t n) := by
  have hn := h.ok.qin hq
  have t2 := h.bd.1.2
  have h1' : (q L t n).length ≤ 1 := by
    rcases h1 with h1 | h1
    · exact h.ok.one t n h1
    · exact h1
  have hb := not_bits (h.pp t) (bit_lt (k := n) (by omega))
  rw [← pow_cast] at hb
  have KB := hid (fun w => bit_any w n (by omega))
  obtain ⟨mb, g, cap, h⟩ := h
  have c34 := h.c.mp
  have hsb := h.c.lt
  have cp := h.c.ps (t := t) (by omega)
  have hfz := h.c.free (18 + t)
  have ka := Kp.alloc w (.cells #[.int .i64 (t : Nat), .int .i64 (n : Nat)] 78) []
  obtain ⟨v, hv, hl⟩ : ∃ v : Value, (Fq L g cap t n).getD (.slice none 0 0) = v ∧ ∃ ao k c, v = .slice ao k c ∧ k ≤ 1 := by
    by_cases h16 : 16 ≤ n
    · exact ⟨_, rfl, _, _, _, by rw [Fq_yes h16 hq]; rfl, h1'⟩
    · refine ⟨_, rfl, none, 0, 0, ?_, by omega⟩
      unfold Fq
      rw [if_neg (by omega)]
      rfl
  have hlk := fun (z : World) (hk : Kp w z []) => (h.m.keep hk (by simp)).look (t := t) (n := n) (by omega) (by omega)
  rw [hv] at hlk
  have HLK := hid hlk
  obtain ⟨ao, k, c, rfl, hk1⟩ := hl
  have HD := hid (fun (z : World) (hk : Kp w z []) => (h.m.keep hk (by simp)).drop (t := t) (n := n) (by omega) (by omega))
  have HE := hid (fun (z w1 : World) (hz : Kp w z []) (hm : Mq w1 mb (setF (Fq L g cap) t n none)) (hk : Kp z w1 [mb]) => h.drop (by omega) hq h1' hm (hz.nil.trans hk))
  have HC := hid (fun (z : World) (hk : Kp w z [mb]) => And.intro (hk.cell c34 (by simp; exact h.ne.1)) (And.intro (hk.cell cp (by simp; exact h.ne.1)) (h.c.keep hk (by simp; exact h.ne.1) |>.free (18 + t))))
  have hm1 : mb < w.heap.size := by
    obtain ⟨es, cl, hm⟩ := h.m.obj
    exact lt_of_block hm
  have HN := hid h.ne.1
  have ht16 : t < 16 := by omega
  have ht16i : (t : Int) < 16 := by omega
  have hgt : decide (1 < (k : Int)) = false := by simp; omega
  have CB := hid (fun (z : World) (hz : Kp (w.alloc (.cells #[.int .i64 (t : Nat), .int .i64 (n : Nat)] 78)) z [mb]) => And.intro (hz.cell (cell_two0 (heap_alloc_new w (.cells #[.int .i64 (t : Nat), .int .i64 (n : Nat)] 78))) (by simp; omega)) (hz.cell (cell_two1 (heap_alloc_new w (.cells #[.int .i64 (t : Nat), .int .i64 (n : Nat)] 78))) (by simp; omega)))
  have KA := hid ka
  clear h hv hlk hq ht h1 h1' hm1 ka
  generalize noB (pend L t) (2 ^ n) = z at hb HE
  generalize pend L t = x at hb cp HC
  go_enter Try.func43, Try.ntmps43
  go_wp2
  have hlq : ∀ j : Nat, (Instr.lookup 59 (.map (some mb)) (.agg #[.int .i64 (t : Nat), .int .i64 (n : Nat)]) false).run Try.prog ((w.alloc (.cells #[.int .i64 (t : Nat), .int .i64 (n : Nat)] 78)).drewN j) = .ok (.slice ao k c) ((w.alloc (.cells #[.int .i64 (t : Nat), .int .i64 (n : Nat)] 78)).drewN j) := fun j => HLK.out _ (KA.out.trans (Kp.drewN _ _ _))
  obtain ⟨d0, d1⟩ := CB.out _ (Kp.refl _ _)
  go_quiet (fail)
  clear hlq d0 d1 cp c34 hfz
  have KZ := hid (KA.out.trans (Kp.drewN (w.alloc (.cells #[.int .i64 (t : Nat), .int .i64 (n : Nat)] 78)) nq []))
  have KY := hid (show Kp (w.alloc (.cells #[.int .i64 (t : Nat), .int .i64 (n : Nat)] 78)) ((w.alloc (.cells #[.int .i64 (t : Nat), .int .i64 (n : Nat)] 78)).drewN nq) [mb] from Kp.drewN _ _ _)
  obtain ⟨W1, hW1⟩ : ∃ W1, (w.alloc (.cells #[.int .i64 (t : Nat), .int .i64 (n : Nat)] 78)).drewN nq = W1 := ⟨_, rfl⟩
  rw [hW1] at KZ KY ⊢
  clear hW1
  obtain ⟨w4, hrun, hm4, hk4, hs4⟩ := HD.out W1.drew (KZ.out.trans (Kp.drew _ _)) 0
  have H4 := hid (And.intro hm4 hk4)
  have HR := hid hrun
  clear hm4 hk4 hs4 hrun
  go_wp2_with fail
  go_region_held_law (fun w1 => w1.cell? ⟨sb, 34, none⟩ = some (.map (some mb)) ∧ w1.cell? ⟨w.heap.size, 0, none⟩ = some (.int .i64 (t : Nat)) ∧ w1.cell? ⟨w.heap.size, 1, none⟩ = some (.int .i64 (n : Nat)))
    (first
      | exact ⟨(HC.out _ (KZ.out.trans (Kp.drew _ _)).nil).1, (CB.out _ (KY.out.trans (Kp.drew _ _))).1, (CB.out _ (KY.out.trans (Kp.drew _ _))).2⟩
      | exact ⟨(HC.out _ ((KZ.out.trans (Kp.drew _ _)).nil.trans H4.out.2)).1, (CB.out _ ((KY.out.trans (Kp.drew _ _)).trans H4.out.2)).1, (CB.out _ ((KY.out.trans (Kp.drew _ _)).trans H4.out.2)).2⟩)
    (first | (refine step_in (by rfl) (wp_del _ _ (by rfl) mb (key t n) w4 (by rfl) (by rfl) HR.out ?_)) | fail)
  have K4 := hid ((KZ.out.trans (Kp.drew _ _)).nil.trans H4.out.2)
  have TO := hid (fun w1 (h1 : Kp w4 w1 []) => HE.out W1.drew w1 (KZ.out.trans (Kp.drew _ _)) (H4.out.1.keep h1 (by simp)) (H4.out.2.trans h1.nil))
  obtain ⟨-, cp, hfz⟩ := HC.out _ K4.out
  clear HC HD HE HLK CB KA KY KZ HR H4
  go_wp2_with fail
  go_region_with (go_at_call 42; refine (KB.out _).mono ?_; rintro e wr ⟨rfl, hw⟩; obtain rfl := hw.symm)
  all_goals (refine bodyPost_end (results_none rfl _ _ _) rfl ?_; exact ⟨rfl, (TO.out _ (Kp.refl _ _)).drew⟩)
/-- What is left when one was taken, and more are there. -/
theorem Sp.shift {w w1 w2 : World} {sb : Nat} {R : List Nat} {T S : Nat} {M : Nat → Nat} {L : El} {mb : Nat} {g cap : Nat → Nat → Nat} (h : Sp w sb R T S M L mb g cap) {t n : Nat} (h16 : 16 ≤ n) (h1 : 1 < (q L t n).length)
    (hns : Ns w1 0 (.slice (some ⟨g t n, 0, none⟩) ((q L t n).length - 1) (cap t n)) ((q L t n).drop 1)) (hk1 : Kp w w1 [g t n])
    (hm : Mq w2 mb (setF (Fq L g cap) t n (some (.slice (some ⟨g t n, 0, none⟩) ((q L t n).length - 1) (cap t n))))) (hk2 : Kp w1 w2 [mb]) : Ts w w2 sb R T S M (rm L t n) := by
  have hne := h.ne
  have hq : q L t n ≠ [] := by
    intro e
    rw [e] at h1
    simp at h1
  have hg := hne.2 t n h16 hq
  have k12 : Kp w w2 [g t n, mb] := (hk1.mono (by simp)).trans (hk2.mono (by simp))
  have htl : (q L t n).drop 1 = (q L t n).tail := List.drop_one
  have htne : (q L t n).tail ≠ [] := by
    intro e
    have := congrArg List.length e
    simp at this
    omega
  have hpp : pend (rm L t n) = pend L := by
    funext t'
    by_cases e : t' = t
    · subst e
      exact pend_rm_more L t' n h1
    · exact pend_rm_other L t n t' e
  have sub : ∀ t' n', q (rm L t n) t' n' ≠ [] → q L t' n' ≠ [] := fun t' n' hh => by
    obtain ⟨x, hx, e⟩ := q_ne.1 hh
    exact q_ne.2 ⟨x, rm_mem hx, e⟩
  refine ⟨⟨mb, g, cap, by rw [hpp]; exact h.c.keep k12 (by simp; exact ⟨fun e => hg.1 e.symm, hne.1⟩), hm.congr (fun t' n' _ _ => ?_), fun t' n' hn' hq' => ?_, fun t1 n1 t2 n2 a1 a2 a3 a4 e => h.inj t1 n1 t2 n2 a1 (sub _ _ a2) a3 (sub _ _ a4) e, h.sR, h.mR, fun j hj => Nat.lt_of_lt_of_le (h.lt j hj) k12.size, h.ok.rm t n, h.t1, h.t2, h.s1, h.s2, h.mm⟩, k12.mono (by
    intro k hk' _
    simp at hk'
    rcases hk' with rfl | rfl
    · exact (h.row t n h16 hq).2
    · exact h.mR)⟩
  · unfold setF Fq
    rw [q_rm]
    by_cases e : t' = t ∧ n' = n
    · obtain ⟨rfl, rfl⟩ := e
      rw [if_pos ⟨rfl, rfl⟩]
      simp [h16, htne]
    · rw [if_neg e, if_neg e]
  · have hq2 := sub t' n' hq'
    refine ⟨?_, (h.row t' n' hn' hq2).2⟩
    rw [q_rm]
    by_cases e : t' = t ∧ n' = n
    · obtain ⟨rfl, rfl⟩ := e
      rw [if_pos ⟨rfl, rfl⟩, ← htl]
      have := hns.kp hk2 (fun g' hg' => by
        simp [Value.ownBlock] at hg'
        subst hg'
        simp
        exact hg.2)
      rw [List.length_drop]
      exact this
    · rw [if_neg e]
      refine (h.row t' n' hn' hq2).1.kp k12 (fun g' hg' => ?_)
      simp [Value.ownBlock] at hg'
      subst hg'
      simp
      exact ⟨fun e' => e (h.inj t n t' n' h16 hq hn' hq2 e'.symm), (hne.2 t' n' hn' hq2).2⟩
set_option maxRecDepth 100000 in
set_option maxHeartbeats 1000000 in
theorem take_more (w : World) (sb : Nat) (R : List Nat) (T S : Nat) (M : Nat → Nat) (L : El) (t n : Nat) (h : Sg w sb R T S M L) (ht : t < T) (h16 : 16 ≤ n) (h31 : n ≤ 31) (h1 : 1 < (q L t n).length) : Calls Try.prog 43 #[.pointer (some ⟨sb, 0, none⟩), .int .i64 t, .int .i64 n] w fun e w' => e = .returned (.tuple #[]) ∧ Ts w w' sb R T S M (rm L t n) := by
  have t2 := h.bd.1.2
  have hq : q L t n ≠ [] := by
    intro e
    rw [e] at h1
    simp at h1
  obtain ⟨mb, g, cap, h⟩ := h
  have c34 := h.c.mp
  have hsb := h.c.lt
  have ka := Kp.alloc w (.cells #[.int .i64 (t : Nat), .int .i64 (n : Nat)] 78) []
  have hlk := fun (z : World) (hk : Kp w z [g t n]) => (h.m.keep hk (by simp; exact fun e => (h.ne.2 t n h16 hq).2 e.symm)).look (t := t) (n := n) (by omega) (by omega)
  rw [Fq_yes h16 hq, Option.getD_some] at hlk
  have HLK := hid hlk
  have HDel := hid (fun (z : World) (hk : Kp w z []) => del_any ((h.row t n h16 hq).1.keep hk) (i := 0) (by omega))
  have HM := hid (fun (z : World) (hk : Kp w z [g t n]) => (h.m.keep hk (by simp; exact fun e => (h.ne.2 t n h16 hq).2 e.symm)).store (t := t) (n := n) (by omega) (by omega) (.slice (some ⟨g t n, 0, none⟩) ((q L t n).length - 1) (cap t n)))
  have HE := hid (fun (w1 w2 : World) (hns : Ns w1 0 (.slice (some ⟨g t n, 0, none⟩) ((q L t n).length - 1) (cap t n)) ((q L t n).drop 1)) (hk1 : Kp w w1 [g t n]) (hm : Mq w2 mb (setF (Fq L g cap) t n (some (.slice (some ⟨g t n, 0, none⟩) ((q L t n).length - 1) (cap t n))))) (hk2 : Kp w1 w2 [mb]) => h.shift h16 h1 hns hk1 hm hk2)
  have HC := hid (fun (z : World) (hk : Kp w z [g t n, mb]) => hk.cell c34 (by simp; exact ⟨fun e => (h.ne.2 t n h16 hq).1 e.symm, h.ne.1⟩))
  have hm1 : mb < w.heap.size := by
    obtain ⟨es, cl, hm⟩ := h.m.obj
    exact lt_of_block hm
  have hg1 : g t n < w.heap.size := by
    obtain ⟨cur, hg⟩ := h.own h16 hq
    exact lt_of_block hg
  have CB := hid (fun (z : World) (hz : Kp (w.alloc (.cells #[.int .i64 (t : Nat), .int .i64 (n : Nat)] 78)) z [g t n, mb]) => And.intro (hz.cell (cell_two0 (heap_alloc_new w (.cells #[.int .i64 (t : Nat), .int .i64 (n : Nat)] 78))) (by simp; omega)) (hz.cell (cell_two1 (heap_alloc_new w (.cells #[.int .i64 (t : Nat), .int .i64 (n : Nat)] 78))) (by simp; omega)))
  have KA := hid ka
  clear h hlk hq ht hm1 ka hg1
  generalize Fq L g cap = F at HM HE
  generalize hqq : q L t n = l at *
  clear hqq
  have hgt : decide (1 < (l.length : Int)) = true := by simp; omega
  generalize g t n = gb at *
  generalize cap t n = cp at *
  go_enter Try.func43, Try.ntmps43
  go_wp2
  have hlq : ∀ j : Nat, (Instr.lookup 59 (.map (some mb)) (.agg #[.int .i64 (t : Nat), .int .i64 (n : Nat)]) false).run Try.prog ((w.alloc (.cells #[.int .i64 (t : Nat), .int .i64 (n : Nat)] 78)).drewN j) = .ok (.slice (some ⟨gb, 0, none⟩) l.length cp) ((w.alloc (.cells #[.int .i64 (t : Nat), .int .i64 (n : Nat)] 78)).drewN j) := fun j => HLK.out _ (KA.out.trans (Kp.drewN _ _ _)).nil
  obtain ⟨d0, d1⟩ := CB.out _ (Kp.refl _ _)
  go_quiet (fail)
  clear hlq d0 d1 c34
  have KZ := hid (KA.out.trans (Kp.drewN (w.alloc (.cells #[.int .i64 (t : Nat), .int .i64 (n : Nat)] 78)) nq []))
  have KY := hid (show Kp (w.alloc (.cells #[.int .i64 (t : Nat), .int .i64 (n : Nat)] 78)) ((w.alloc (.cells #[.int .i64 (t : Nat), .int .i64 (n : Nat)] 78)).drewN nq) [gb, mb] from Kp.drewN _ _ _)
  obtain ⟨W1, hW1⟩ : ∃ W1, (w.alloc (.cells #[.int .i64 (t : Nat), .int .i64 (n : Nat)] 78)).drewN nq = W1 := ⟨_, rfl⟩
  rw [hW1] at KZ KY ⊢
  clear hW1
  have hlq : (Instr.lookup 59 (.map (some mb)) (.agg #[.int .i64 (t : Nat), .int .i64 (n : Nat)]) false).run Try.prog W1.drew = .ok (.slice (some ⟨gb, 0, none⟩) l.length cp) W1.drew := HLK.out _ (KZ.out.trans (Kp.drew _ _)).nil
  go_wp2_with fail
  go_region_held_law (fun w1 => w1.cell? ⟨sb, 34, none⟩ = some (.map (some mb)) ∧ w1.cell? ⟨w.heap.size, 0, none⟩ = some (.int .i64 (t : Nat)) ∧ w1.cell? ⟨w.heap.size, 1, none⟩ = some (.int .i64 (n : Nat)))
    (first
      | exact ⟨HC.out _ (KZ.out.trans (Kp.drew _ _)).nil, (CB.out _ (KY.out.trans (Kp.drew _ _))).1, (CB.out _ (KY.out.trans (Kp.drew _ _))).2⟩
      | exact ⟨HC.out _ ((KZ.out.trans (Kp.drew _ _)).nil.trans (hk1.mono (by simp))), (CB.out _ ((KY.out.trans (Kp.drew _ _)).trans (hk1.mono (by simp)))).1, (CB.out _ ((KY.out.trans (Kp.drew _ _)).trans (hk1.mono (by simp)))).2⟩
      | exact ⟨HC.out _ (((KZ.out.trans (Kp.drew _ _)).nil.trans (hk1.mono (by simp))).trans (H4.out.2.mono (by simp))), (CB.out _ (((KY.out.trans (Kp.drew _ _)).trans (hk1.mono (by simp))).trans (H4.out.2.mono (by simp)))).1, (CB.out _ (((KY.out.trans (Kp.drew _ _)).trans (hk1.mono (by simp))).trans (H4.out.2.mono (by simp)))).2⟩)
    (first
      | (go_at_call 52; refine (HDel.out _ (KZ.out.trans (Kp.drew _ _))).mono ?_; rintro e z1 ⟨rfl, hns1, hk1⟩; obtain ⟨w4, hrun0, hm4, hk4, hs4⟩ := HM.out z1 ((KZ.out.trans (Kp.drew _ _)).nil.trans hk1); have H4 := hid (And.intro hm4 hk4); have hrun : (Instr.mapUpdate 59 (.map (some mb)) (.agg #[.int .i64 (t : Nat), .int .i64 (n : Nat)]) (.slice (some ⟨gb, 0, none⟩) (l.length - 1) cp)).run Try.prog z1 = .ok () w4 := hrun0; clear hm4 hk4 hs4 hrun0)
      | fail)
  have TO := hid (HE.out z1 w4 (by simpa using hns1) ((KZ.out.trans (Kp.drew _ _)).nil.trans hk1) H4.out.1 H4.out.2)
  clear hns1 hk1 H4 hrun hlq KZ KY HLK HDel HM HE HC CB KA
  go_wp2
  refine bodyPost_ret (results_none rfl _ _ _) rfl ?_
  exact ⟨rfl, TO.out⟩
theorem take_in (w : World) (sb : Nat) (R : List Nat) (T S : Nat) (M : Nat → Nat) (L : El) (t n : Nat) (h : Sg w sb R T S M L) (hq : q L t n ≠ []) : Calls Try.prog 43 #[.pointer (some ⟨sb, 0, none⟩), .int .i64 t, .int .i64 n] w fun e w' => e = .returned (.tuple #[]) ∧ Ts w w' sb R T S M (rm L t n) := by
  have hn := h.ok.qin hq
  by_cases h1 : n < 16 ∨ (q L t n).length ≤ 1
  · exact take_last w sb R T S M L t n h hn.1 hq h1
  · exact take_more w sb R T S M L t n h hn.1 (by omega) hn.2.2 (by omega)
theorem take_any (w : World) (sb : Nat) (R : List Nat) (T S : Nat) (M : Nat → Nat) (L : El) (t n : Nat) (h : Sg w sb R T S M L) (hq : q L t n ≠ []) : Calls Try.prog 43 #[.pointer (some ⟨sb, 0, none⟩), .int .i64 t, .int .i64 n] w fun e w' => e = .returned (.tuple #[]) ∧ To w w' sb R T S M (rm L t n) := by
  refine (take_in w sb R T S M L t n h hq).mono ?_
  rintro e w' ⟨rfl, h⟩
  exact ⟨rfl, h.to⟩
end Go.Proofs.Ytoenipaccnpihaa
