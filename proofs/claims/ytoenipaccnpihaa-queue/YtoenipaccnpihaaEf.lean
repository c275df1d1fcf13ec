/- maps.EqualFunc: the same queues. -/
import Derived.Test.YtoenipaccnpihaaCy
namespace Go.Proofs.Ytoenipaccnpihaa
open Go.RowKit Go.Shelf Go.Sort Go.Maps
open Go.Lib hiding intOf
attribute [local go_sem] Oper.semAt_some

/-- The same queues? -/
def eqQ (L1 L2 : El) : Bool := ks.all fun k => decide (k.2 < 16) || decide (q L1 k.1 k.2 = q L2 k.1 k.2)
def cntQ (L : El) : Nat := (ks.filter fun k => decide (16 ≤ k.2 ∧ q L k.1 k.2 ≠ [])).length
theorem count_sub {p p' : Nat × Nat → Bool} : ∀ {l : List (Nat × Nat)}, (∀ k ∈ l, p k = true → p' k = true) → (l.filter p).length ≤ (l.filter p').length ∧ ((l.filter p).length = (l.filter p').length → ∀ k ∈ l, p' k = true → p k = true)
  | [], _ => by simp
  | k :: l, h => by
    obtain ⟨i1, i2⟩ := count_sub (l := l) (fun j hj => h j (by simp [hj]))
    have hk := h k (by simp)
    cases hp : p k with
    | true =>
      have hp' := hk hp
      rw [List.filter_cons_of_pos hp, List.filter_cons_of_pos hp']
      refine ⟨by simp; omega, fun e j hj hpj => ?_⟩
      rcases List.mem_cons.1 hj with rfl | hj
      · exact hp
      · exact i2 (by simp at e; omega) j hj hpj
    | false =>
      rw [List.filter_cons_of_neg (by simp [hp])]
      cases hp' : p' k with
      | true =>
        rw [List.filter_cons_of_pos hp']
        refine ⟨by simp; omega, fun e => ?_⟩
        simp at e
        omega
      | false =>
        rw [List.filter_cons_of_neg (by simp [hp'])]
        refine ⟨i1, fun e j hj hpj => ?_⟩
        rcases List.mem_cons.1 hj with rfl | hj
        · rw [hp'] at hpj; cases hpj
        · exact i2 e j hj hpj
theorem eqQ_cnt {L1 L2 : El} (h : eqQ L1 L2 = true) : cntQ L1 = cntQ L2 := by
  unfold cntQ
  congr 1
  apply List.filter_congr
  intro k hk
  have := List.all_eq_true.1 h k hk
  simp at this
  by_cases h16 : 16 ≤ k.2
  · rcases this with h' | h'
    · omega
    · rw [h']
  · simp [h16]
theorem eqQ_all {L1 L2 : El} (hc : cntQ L1 = cntQ L2) (h : ∀ t n, t < 16 → n < 32 → 16 ≤ n → q L1 t n ≠ [] → q L1 t n = q L2 t n) : eqQ L1 L2 = true := by
  refine List.all_eq_true.2 fun k hk => ?_
  have hk' := mem_ks.1 hk
  by_cases h16 : 16 ≤ k.2
  · have := (count_sub (p := fun k => decide (16 ≤ k.2 ∧ q L1 k.1 k.2 ≠ [])) (p' := fun k => decide (16 ≤ k.2 ∧ q L2 k.1 k.2 ≠ [])) (l := ks) (fun j hj hp => by
      have hj' := mem_ks.1 hj
      simp only [decide_eq_true_eq] at hp ⊢
      exact ⟨hp.1, by rw [← h j.1 j.2 hj'.1 hj'.2 hp.1 hp.2]; exact hp.2⟩)).2 hc k hk
    simp only [Bool.or_eq_true, decide_eq_true_eq]
    right
    by_cases h1 : q L1 k.1 k.2 = []
    · by_cases h2 : q L2 k.1 k.2 = []
      · rw [h1, h2]
      · have := this (by simp [h16, h2])
        simp [h1] at this
    · exact h k.1 k.2 hk'.1 hk'.2 h16 h1
  · simp; omega
theorem eqQ_no {L1 L2 : El} {t n : Nat} (ht : t < 16) (hn : n < 32) (h16 : 16 ≤ n) (h : q L1 t n ≠ q L2 t n) : eqQ L1 L2 = false := by
  cases he : eqQ L1 L2 with
  | false => rfl
  | true =>
    have := List.all_eq_true.1 he (t, n) (mem_ks.2 ⟨ht, hn⟩)
    simp at this
    rcases this with h' | h'
    · omega
    · exact (h h').elim
theorem Sp.len {w : World} {sb : Nat} {R : List Nat} {T S : Nat} {M : Nat → Nat} {L : El} {mb : Nat} {g cap : Nat → Nat → Nat} (h : Sp w sb R T S M L mb g cap) (ty : TypeId) : (Builtin.len_ #[59] ty #[.map (some mb)]).run Try.prog w = .ok (.int .i64 (cntQ L : Nat)) w := by
  have := h.m.len ty
  rw [this]
  unfold cntQ
  congr 5
  funext k
  exact Fq_isSome L g cap k.1 k.2
theorem wpList_look2 {w : World} {ops : Array Oper} {rest : List Oper} {o : Oper} {a : Act} {Q : Exit → Act → World → Prop} (hg : o.guard = none) (m x : Operand) (hop : o.op = Op.lookup 59 m x true)
    (b : Nat) (kv v : Value) (hm : a.eval m = .map (some b)) (hx : a.eval x = kv) (h : (Instr.lookup 59 (.map (some b)) kv true).run Try.prog w = .ok v w)
    (hK : wpList Try.prog ops Q rest (a.put o.dst v) w) : wpList Try.prog ops Q (o :: rest) a w := by
  refine wpList_plain hg fun K' hK' => ?_
  unfold Oper.wp
  simp [execOp, hop, hm, hx, h, Result.andThen]
  exact hK' _ _ hK
abbrev eqF : Value := .func (.func 38) #[] #[]
set_option maxRecDepth 100000 in
set_option maxHeartbeats 2000000 in
theorem equalfunc_any (w : World) (s1 s2 : Nat) (R1 R2 : List Nat) (T1 S1 T2 S2 : Nat) (M1 M2 : Nat → Nat) (L1 L2 : El) (b1 b2 : Nat) (g1 c1 g2 c2 : Nat → Nat → Nat) (h1 : Sp w s1 R1 T1 S1 M1 L1 b1 g1 c1) (h2 : Sp w s2 R2 T2 S2 M2 L2 b2 g2 c2) :
    Calls Try.prog 37 #[.map (some b1), .map (some b2), eqF] w fun e w' => e = .returned (.bool (eqQ L1 L2)) ∧ Kp w w' [] := by
  have l1 := h1.len 3
  have l2 := h2.len 3
  have H1 := hid h1
  have H2 := hid h2
  obtain ⟨D, ho, hd⟩ := h1.m
  have HDD := hid hd
  have hmlt := h1.lt _ h1.mR
  obtain ⟨E, hE⟩ : ∃ E, eqQ L1 L2 = E := ⟨_, rfl⟩
  rw [hE]
  have HE := hid hE
  by_cases hc : cntQ L1 = cntQ L2
  · have hne : ((cntQ L1 : Int) != (cntQ L2 : Int)) = false := by simp [hc]
    have HC := hid hc
    clear h1 h2 hd hE hc
    go_enter Try.func37, Try.ntmps37
    go_wp2_with (first | (at_range; refine wpList_range_own _ rfl _ 59 rfl 78 43 keyed78 Try.underlying59 RQ b1 512 D rfl ho ?_; intro w0 hrg0 hg0 hs0) | fail)
    go_frame
    have HR0 := hid (show w0.ranges Try.prog 78 RQ b1 w.heap.size 512 D (Maps.has D) (Maps.size D) ∧ Kp w w0 [] from ⟨hrg0, Kp.ofGrown hg0 (by simp)⟩)
    clear hrg0 hg0 hs0 ho l1 l2 hne
    go_loopw [] (fun wr => ∃ left cnt, Hid (wr.ranges Try.prog 78 RQ b1 w.heap.size 512 D left cnt ∧ Kp w wr [] ∧ ∀ t n, t < 16 → n < 32 → 16 ≤ n → q L1 t n ≠ [] → left (kl t n) = false → q L1 t n = q L2 t n)) (fun wr => wr.rangeLeft b1 w.heap.size)
    case atStart => exact ⟨_, _, hid ⟨HR0.out.1, HR0.out.2, fun t n ht hn h16 hq hl => by
      rw [HDD.out.has t n ht hn, Fq_isSome] at hl
      simp [h16, hq] at hl⟩⟩
    case round =>
      obtain ⟨left, cnt, hR⟩ := hrel
      have hrg := hR.out.1
      clear HR0
      go_wp2_with (first | (at_next; refine wpList_next_ranges _ rfl _ rfl 78 keyed78 RQ (fun v => v) (fun v => v) (fun key kl h => ⟨key, rfl⟩) (fun v y h => ⟨v, rfl⟩) b1 w.heap.size 512 D left cnt rfl hrg ?_ ?_) | fail)
      · intro hc0 hl0
        have F := hid (show E = true from by rw [← HE.out]; exact eqQ_all HC.out fun t n ht hn h16 hq => hR.out.2.2 t n ht hn h16 hq (hl0 _))
        clear hrg hc0 hl0
        go_wp2
        go_ret
        exact ⟨by rw [F.out]; rfl, hR.out.2.1⟩
      · intro x c l y1 y2 w2 cnt2 hkx hlx hRy hat hrg2 hlt2 hg2 hs2 hen
        obtain ⟨t, n, ht, hn, rfl, rfl, hF⟩ := HDD.out.came hkx hRy hat
        simp only [key] at hen ⊢
        obtain ⟨h16, hq, rfl⟩ := Fq_some hF
        have hk2 : Kp w w2 [] := hR.out.2.1.past (Kp.ofGrown hg2 (rows := [w.heap.size]) (by simp)) (by intro j hj hl; simp at hj; omega)
        have kA := Kp.alloc w2 (.cells #[.int .i64 (t : Nat), .int .i64 (n : Nat)] 78) []
        obtain ⟨w3, hw3⟩ : ∃ w3, w2.alloc (.cells #[.int .i64 (t : Nat), .int .i64 (n : Nat)] 78) = w3 := ⟨_, rfl⟩
        rw [hw3] at kA
        have d0 : w3.cell? ⟨w2.heap.size, 0, none⟩ = some (.int .i64 (t : Nat)) := by rw [← hw3]; exact cell_two0 (heap_alloc_new w2 _)
        have d1 : w3.cell? ⟨w2.heap.size, 1, none⟩ = some (.int .i64 (n : Nat)) := by rw [← hw3]; exact cell_two1 (heap_alloc_new w2 _)
        have hlk := (H2.out.m.keep (hk2.trans kA) (by simp)).look_ok ht hn
        rw [Fq_isSome] at hlk
        have hr3 : w3.ranges Try.prog 78 RQ b1 w.heap.size 512 D (fun z => left z && !z.sameKey (kl t n)) cnt2 := by rw [← hw3]; exact hrg2.alloc _
        have HG := hid (And.intro hr3 (And.intro hlt2 (And.intro (hk2.trans kA) hrg)))
        have HQ := hid (And.intro h16 (And.intro hq hlx))
        have hne1 := ((H1.out.row t n h16 hq).1.keep hk2).keep kA
        have hf1 := H1.out.few ht hn h16
        have hf2 := H2.out.few ht hn h16
        by_cases hq2 : q L2 t n = []
        · have hlk : (Instr.lookup 59 (.map (some b2)) (.agg #[.int .i64 (t : Nat), .int .i64 (n : Nat)]) true).run Try.prog w3 = .ok (.tuple #[.slice none 0 0, .bool false]) w3 := by
            rw [show decide (16 ≤ n ∧ q L2 t n ≠ []) = false by simp [hq2], show Fq L2 g2 c2 t n = none by unfold Fq; rw [if_neg (by simp [hq2])]] at hlk
            exact hlk
          have HL := hid hlk
          have F := hid (show E = false from by rw [← HE.out]; exact eqQ_no ht hn h16 (by rw [hq2]; exact hq))
          clear hlk hrg2 hlt2 hg2 hs2 hr3 hk2 kA hne1 hf1 hf2 hq2 hkx hRy hat hF hR h16 hq hlx hrg
          go_wp2_with (first | (at_lookup; refine wpList_look2 rfl _ _ rfl b2 _ _ rfl rfl HL.out ?_) | fail)
          go_ret
          exact ⟨by rw [F.out]; rfl, HG.out.2.2.1⟩
        · have hlk : (Instr.lookup 59 (.map (some b2)) (.agg #[.int .i64 (t : Nat), .int .i64 (n : Nat)]) true).run Try.prog w3 = .ok (.tuple #[.slice (some ⟨g2 t n, 0, none⟩) (q L2 t n).length (c2 t n), .bool true]) w3 := by
            rw [show decide (16 ≤ n ∧ q L2 t n ≠ []) = true by simp [h16, hq2], Fq_yes h16 hq2] at hlk
            exact hlk
          have HL := hid hlk
          have hne2 := ((H2.out.row t n h16 hq2).1.keep hk2).keep kA
          have CE := eq_any hne1 hne2 (by omega) (by omega)
          by_cases heq : q L1 t n = q L2 t n
          · rw [decide_eq_true heq] at CE
            have CE := hid CE
            have F := hid (show ∀ t' n', t' < 16 → n' < 32 → 16 ≤ n' → q L1 t' n' ≠ [] → (left (kl t' n') && !(kl t' n').sameKey (kl t n)) = false → q L1 t' n' = q L2 t' n' from fun t' n' a b c' d e => by
              by_cases e' : t' = t ∧ n' = n
              · obtain ⟨rfl, rfl⟩ := e'
                exact heq
              · rw [sameKey_ne (kl_ne ht hn a b e')] at e
                exact hR.out.2.2 t' n' a b c' d (by simpa using e))
            clear hlk hrg2 hlt2 hg2 hs2 hr3 hk2 kA hne1 hne2 hf1 hf2 hq2 hkx hRy hat hF hR h16 hq hlx hrg heq
            go_wp2_with (first | (at_lookup; refine wpList_look2 rfl _ _ rfl b2 _ _ rfl rfl HL.out ?_) | (go_at_call 38; refine CE.out.mono ?_; rintro e w4 ⟨rfl, hk4⟩) | fail)
            have HK := hid hk4
            have F2 := hid (show w4.ranges Try.prog 78 RQ b1 w.heap.size 512 D (fun z => left z && !z.sameKey (kl t n)) cnt2 ∧ Kp w w4 [] ∧ w4.rangeLeft b1 w.heap.size < wr.rangeLeft b1 w.heap.size from by
              obtain ⟨a1, a2, a3, a4⟩ := HG.out
              have hr := a1.kept (w' := w4) (row := none) ⟨hk4.os, hk4.tape, hk4.output, hk4.size, fun k hk _ => hk4.block k hk (by simp)⟩ (by simp) (by simp)
              exact ⟨hr, a3.trans hk4, by rw [hr.left_eq, a4.left_eq]; exact a2⟩)
            clear hk4 HG HQ HL CE hen d0 d1
            go_wp2
            go_roundw
            case rel => exact ⟨_, cnt2, hid ⟨F2.out.1, F2.out.2.1, F.out⟩⟩
            case measure => exact F2.out.2.2
          · rw [decide_eq_false heq] at CE
            have CE := hid CE
            have F := hid (show E = false from by rw [← HE.out]; exact eqQ_no ht hn h16 heq)
            clear hlk hrg2 hlt2 hg2 hs2 hr3 hk2 kA hne1 hne2 hf1 hf2 hq2 hkx hRy hat hF hR h16 hq hlx hrg heq
            go_wp2_with (first | (at_lookup; refine wpList_look2 rfl _ _ rfl b2 _ _ rfl rfl HL.out ?_) | (go_at_call 38; refine CE.out.mono ?_; rintro e w4 ⟨rfl, hk4⟩) | fail)
            have HK := hid (HG.out.2.2.1.trans hk4)
            clear hk4
            go_wp2
            go_ret
            exact ⟨by rw [F.out]; rfl, HK.out⟩
  · have hne : ((cntQ L1 : Int) != (cntQ L2 : Int)) = true := by simp; omega
    have F := hid (show E = false from by
      cases hx : E with
      | false => rfl
      | true => rw [← HE.out] at hx; exact (hc (eqQ_cnt hx)).elim)
    clear h1 h2 hd hE hc ho
    go_enter Try.func37, Try.ntmps37
    go_wp2
    go_ret
    exact ⟨by rw [F.out]; rfl, Kp.refl _ _⟩
end Go.Proofs.Ytoenipaccnpihaa
