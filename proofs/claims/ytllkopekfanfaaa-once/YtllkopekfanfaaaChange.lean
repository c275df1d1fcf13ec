/- Put, Change, drop, Leave. -/
import Derived.Test.YtllkopekfanfaaaBase
import Derived.Test.YtllkopekfanfaaaCat
namespace Go.Proofs.Ytllkopekfanfaaa
open Go.RowKit Go.Shelf Go.Lib Go.Sort Go.Maps

/-- What a call leaves of a list: the row is where it was, or in new memory. -/
def Turn (w w' : World) (wb pb : Nat) (V : Value) (L' : List Dl) : Prop := ∃ V', Wt w' wb pb V' L' ∧ (∀ g, V'.ownBlock = some g → V.ownBlock = some g ∨ w.heap.size ≤ g) ∧ Kp w w' (rows wb pb V)
/-- .. the row is where it was. -/
def Cut (w w' : World) (wb pb : Nat) (V : Value) (L' : List Dl) : Prop := ∃ V', Wt w' wb pb V' L' ∧ (∀ g, V'.ownBlock = some g → V.ownBlock = some g) ∧ Kp w w' (rows wb pb V)
theorem Cut.turn {w w' : World} {wb pb : Nat} {V : Value} {L : List Dl} (h : Cut w w' wb pb V L) : Turn w w' wb pb V L := by
  obtain ⟨V', h1, h2, h3⟩ := h
  exact ⟨V', h1, fun g hg => .inl (h2 g hg), h3⟩
theorem Turn.same {w w' : World} {wb pb : Nat} {V : Value} {L : List Dl} (h : Wt w wb pb V L) (hk : Kp w w' []) : Turn w w' wb pb V L := ⟨V, h.same hk, fun _ hg => .inl hg, hk.nil⟩
theorem set_two1 {w : World} {b : Nat} {u v x : Value} {t : TypeId} (h : w.heap[b]? = some (.cells #[u, v] t (0, 0))) : (w.setCell ⟨b, 1, none⟩ x).heap[b]? = some (.cells #[u, x] t (0, 0)) := by
  rw [heap_setCell_same w b 1 _ t x h]
  rfl
theorem Wt.mplen {w : World} {wb pb : Nat} {V : Value} {L : List Dl} (h : Wt w wb pb V L) {P : Pcs} (hp : P.Perm L) : P.length < maxLen := by
  rw [hp.length_eq]
  have := h.ok.len
  unfold maxLen
  omega
/-- The map is turned, then a row put in its place. -/
theorem Wt.pushed {w w1 w2 : World} {wb pb : Nat} {V V' : Value} {L : List Dl} {P : Pcs} {t p : Int} (h : Wt w wb pb V L) (hm : Mp w1 pb P) (k1 : Kp w w1 [pb]) (hp : P.Perm (L ++ [(t, p)])) (hok : okL (L ++ [(t, p)]))
    (k2 : Kp w1 w2 V.ownBlock.toList) (hn : Ns w2 0 V' (L.map (·.1) ++ [t])) (hV : V'.ownBlock = V.ownBlock ∨ ∃ g, V'.ownBlock = some g ∧ w.heap.size ≤ g) : Turn w (w2.setCell ⟨wb, 1, none⟩ V') wb pb V (L ++ [(t, p)]) := by
  have hne := h.ne
  have hl := h.lt
  have hh2 : w2.heap[wb]? = some (.cells #[.map (some pb), V] 100 (0, 0)) := by
    refine (k2.block wb (Nat.lt_of_lt_of_le hl.1 k1.size) (fun hx => ?_)).trans ((k1.block wb hl.1 (by simp; exact hne.1)).trans h.hh)
    simp at hx
    exact (hne.2 wb hx).1 rfl
  have ks := Kp.setCell w2 ⟨wb, 1, none⟩ V'
  have hVn : ∀ g, V'.ownBlock = some g → g ≠ wb := by
    intro g hg
    rcases hV with e | ⟨g', e, hge⟩
    · rw [e] at hg; exact (hne.2 g hg).1
    · rw [e] at hg; cases hg; omega
  refine ⟨V', ⟨set_two1 hh2, ⟨P, ?_, hp⟩, ?_, hok⟩, fun g hg => ?_, ?_⟩
  · refine (hm.keep k2 (fun hx => ?_)).keep ks (by simp; exact fun e => hne.1 e.symm)
    simp at hx
    exact (hne.2 pb hx).2 rfl
  · rw [List.map_append]
    exact hn.kp ks (fun g hg => by simp; exact hVn g hg)
  · rcases hV with e | ⟨g', e, hge⟩
    · rw [e] at hg; exact .inl hg
    · rw [e] at hg; cases hg; exact .inr hge
  · exact ((k1.mono (by simp [rows])).trans (k2.mono (by intro k hk _; simp at hk; simp [rows, hk]))).trans (ks.mono (by simp [rows]))
set_option maxRecDepth 100000 in
theorem put_any (w : World) (wb pb : Nat) (V : Value) (L : List Dl) (t p : Int) (h : Wt w wb pb V L) :
    Calls Try.prog 48 #[.pointer (some ⟨wb, 0, none⟩), .int .i64 t, .int .i64 p] w fun e w' => e = .returned (.int .i64 (putE L t p)) ∧ Turn w w' wb pb V (putL L t p) := by
  have H := hid h
  unfold putE putL
  cases hT : mayT t with
  | false =>
    have HT := hid hT
    clear h hT
    simp only [Bool.false_and, Bool.false_eq_true, if_false]
    go_enter Try.func48, Try.ntmps48
    go_wp2_with (first | (go_at_call 68; refine (zero_no w wb pb V L H.out).mono ?_; rintro e w1 ⟨rfl, rfl⟩) | (go_at_call 73; refine (thread_any _ t).mono ?_; rintro e w1 ⟨rfl, rfl⟩; rw [HT.out]))
    go_ret
    exact ⟨rfl, Turn.same H.out (Kp.refl _ _)⟩
  | true =>
    cases hP : mayP p with
    | false =>
      have HT := hid hT
      have HP := hid hP
      clear h hT hP
      simp only [Bool.and_false, Bool.false_eq_true, if_false]
      go_enter Try.func48, Try.ntmps48
      go_wp2_with (first | (go_at_call 68; refine (zero_no w wb pb V L H.out).mono ?_; rintro e w1 ⟨rfl, rfl⟩) | (go_at_call 73; refine (thread_any _ t).mono ?_; rintro e w1 ⟨rfl, rfl⟩; rw [HT.out]) | (go_at_call 74; refine (prio_may _ p).mono ?_; rintro e w1 ⟨rfl, rfl⟩; rw [HP.out]))
      go_ret
      exact ⟨rfl, Turn.same H.out (Kp.refl _ _)⟩
    | true =>
      have ht : i64 t := by simp [mayT] at hT; constructor <;> omega
      have hpb : 1 ≤ p ∧ p ≤ 31 := by simpa [mayP] using hP
      have HT := hid hT
      have HP := hid hP
      have HH := hid (fun w1 (e : w1 = w) => has_any w1 (some ⟨wb, 0, none⟩) L t (by rw [e]; exact h.vw) ht)
      have HOK := hid (h.ok.put t p)
      have HI := hid ht
      clear h hT hP ht
      simp only [Bool.and_self, if_true]
      cases hB : hasP L t with
      | true =>
        have HB := hid hB
        clear hB
        simp only [if_true]
        go_enter Try.func48, Try.ntmps48
        go_wp2_with (first | (go_at_call 68; refine (zero_no w wb pb V L H.out).mono ?_; rintro e w1 ⟨rfl, rfl⟩) | (go_at_call 73; refine (thread_any _ t).mono ?_; rintro e w1 ⟨rfl, rfl⟩; rw [HT.out]) | (go_at_call 74; refine (prio_may _ p).mono ?_; rintro e w1 ⟨rfl, rfl⟩; rw [HP.out]) | (go_at_call 65; refine (HH.out _ rfl).mono ?_; rintro e w1 ⟨rfl, rfl⟩; rw [HB.out]))
        go_ret
        exact ⟨rfl, Turn.same H.out (Kp.refl _ _)⟩
      | false =>
        have HB := hid hB
        have HOK2 := hid (show okL (L ++ [(t, p)]) by
          have := HOK.out
          unfold putL at this
          rw [HT.out, HP.out, HB.out] at this
          exact this)
        obtain ⟨P, hm, hpm⟩ := H.out.mp
        obtain ⟨w4, hrun, hm4, hk4⟩ := hm.store (k := t) (v := p) HI.out.1 HI.out.2 (by omega) (by omega) (H.out.mplen hpm)
        have c0 := cell_two0 H.out.hh
        have c1 : w4.cell? ⟨wb, 1, none⟩ = some V := hk4.cell (cell_two1 H.out.hh) (by simp; exact H.out.ne.1)
        obtain ⟨ao, cap, hV⟩ := H.out.ns.slice
        rw [List.length_map] at hV
        obtain ⟨n, hn⟩ : ∃ n, L.length = n := ⟨_, rfl⟩
        rw [hn] at hV
        have KA := hid (Kp.alloc w4 (.cells #[.int .i64 t] 3) [])
        have NV := hid (((H.out.ns.kp hk4 (fun g hg => by simp; exact (H.out.ne.2 g hg).2)).keep KA.out))
        have HM := hid (And.intro hm4 (And.intro hk4 (And.intro hpm hn)))
        have hfz : ∀ W, Kp w4 W (V.ownBlock.toList) → W.frozen? ⟨wb, 1, none⟩ = false ∧ W.cell? ⟨wb, 1, none⟩ = some V := fun W hW => by
          have hb : W.heap[wb]? = _ := (hW.block wb (Nat.lt_of_lt_of_le H.out.lt.1 hk4.size) (fun hx => by simp at hx; exact (H.out.ne.2 wb hx).1 rfl)).trans ((hk4.block wb H.out.lt.1 (by simp; exact H.out.ne.1)).trans H.out.hh)
          exact ⟨free_two hb 1, cell_two1 hb⟩
        have HF := hid hfz
        rw [hV] at c1
        have HV := hid hV
        clear hB hm hpm hm4 hk4 hn hfz hV
        simp only [Bool.false_eq_true, if_false]
        go_enter Try.func48, Try.ntmps48
        go_wp2_with (first | (go_at_call 68; refine (zero_no w wb pb V L H.out).mono ?_; rintro e w1 ⟨rfl, rfl⟩) | (go_at_call 73; refine (thread_any _ t).mono ?_; rintro e w1 ⟨rfl, rfl⟩; rw [HT.out]) | (go_at_call 74; refine (prio_may _ p).mono ?_; rintro e w1 ⟨rfl, rfl⟩; rw [HP.out]) | (go_at_call 65; refine (HH.out _ rfl).mono ?_; rintro e w1 ⟨rfl, rfl⟩; rw [HB.out]) | (refine wpList_pushW rfl (.tmp 33) (.tmp 35) rfl _ (L.map (·.1)) _ [t] 1 HV.out.symm NV.out rfl (Ns.low (Ns.one _ _) (Nat.zero_le _)) (by simp) (by have := HM.out.2.2.2; have := H.out.ok.len; simp; omega) (by simp) ?_; intro v3 w3 hN3 hG3 hW3; obtain ⟨a3, cp3, hv3⟩ := hN3.slice; have kg := hid (KA.out.nil.trans (Kp.ofGrown (rows := V.ownBlock.toList) hG3 (by intro g hg; simp [hg]))); obtain ⟨q1, q2⟩ := HF.out _ kg.out; have T3 := hid (H.out.pushed HM.out.1 HM.out.2.1 (perm_put HM.out.2.2.1 HB.out) HOK2.out kg.out hN3 (hW3.imp id fun e => ⟨_, e, by have := HM.out.2.1.size; simp; omega⟩)); obtain ⟨m3, hm3⟩ : ∃ m3, (L.map (·.1) ++ [t]).length = m3 := ⟨_, rfl⟩; rw [hm3] at hv3; subst hv3; clear hN3 hG3 hW3 hm3))
        go_ret
        exact ⟨rfl, T3.out⟩
/-- The map alone is turned. -/
theorem Wt.remap {w w1 : World} {wb pb : Nat} {V : Value} {L : List Dl} {P : Pcs} {t p : Int} (h : Wt w wb pb V L) (hm : Mp w1 pb P) (k1 : Kp w w1 [pb]) (hp : P.Perm (chL L t p)) (hok : okL (chL L t p)) : Turn w w1 wb pb V (chL L t p) := by
  have hne := h.ne
  refine ⟨V, ⟨(k1.block wb h.lt.1 (by simp; exact hne.1)).trans h.hh, ⟨P, hm, hp⟩, ?_, hok⟩, fun _ hg => .inl hg, k1.mono (by simp [rows])⟩
  rw [ch_keys]
  exact h.ns.kp k1 (fun g hg => by simp; exact (hne.2 g hg).2)
set_option maxRecDepth 100000 in
theorem change_any (w : World) (wb pb : Nat) (V : Value) (L : List Dl) (t p : Int) (h : Wt w wb pb V L) :
    Calls Try.prog 54 #[.pointer (some ⟨wb, 0, none⟩), .int .i64 t, .int .i64 p] w fun e w' => e = .returned (.int .i64 (chgE L t p)) ∧ Turn w w' wb pb V (chgL L t p) := by
  have H := hid h
  unfold chgE chgL
  cases hT : mayT t with
  | false =>
    have HT := hid hT
    clear h hT
    simp only [Bool.false_and, Bool.false_eq_true, if_false]
    go_enter Try.func54, Try.ntmps54
    go_wp2_with (first | (go_at_call 68; refine (zero_no w wb pb V L H.out).mono ?_; rintro e w1 ⟨rfl, rfl⟩) | (go_at_call 73; refine (thread_any _ t).mono ?_; rintro e w1 ⟨rfl, rfl⟩; rw [HT.out]))
    go_ret
    exact ⟨rfl, Turn.same H.out (Kp.refl _ _)⟩
  | true =>
    cases hP : mayP p with
    | false =>
      have HT := hid hT
      have HP := hid hP
      clear h hT hP
      simp only [Bool.and_false, Bool.false_eq_true, if_false]
      go_enter Try.func54, Try.ntmps54
      go_wp2_with (first | (go_at_call 68; refine (zero_no w wb pb V L H.out).mono ?_; rintro e w1 ⟨rfl, rfl⟩) | (go_at_call 73; refine (thread_any _ t).mono ?_; rintro e w1 ⟨rfl, rfl⟩; rw [HT.out]) | (go_at_call 74; refine (prio_may _ p).mono ?_; rintro e w1 ⟨rfl, rfl⟩; rw [HP.out]))
      go_ret
      exact ⟨rfl, Turn.same H.out (Kp.refl _ _)⟩
    | true =>
      have ht : i64 t := by simp [mayT] at hT; constructor <;> omega
      have hpb : 1 ≤ p ∧ p ≤ 31 := by simpa [mayP] using hP
      have HT := hid hT
      have HP := hid hP
      have HH := hid (fun w1 (e : w1 = w) => has_any w1 (some ⟨wb, 0, none⟩) L t (by rw [e]; exact h.vw) ht)
      have HOK := hid (h.ok.ch hT hP)
      have HI := hid ht
      clear h hT hP ht
      simp only [Bool.and_self, if_true]
      cases hB : hasP L t with
      | false =>
        have HB := hid hB
        clear hB
        simp only [Bool.false_eq_true, if_false]
        go_enter Try.func54, Try.ntmps54
        go_wp2_with (first | (go_at_call 68; refine (zero_no w wb pb V L H.out).mono ?_; rintro e w1 ⟨rfl, rfl⟩) | (go_at_call 73; refine (thread_any _ t).mono ?_; rintro e w1 ⟨rfl, rfl⟩; rw [HT.out]) | (go_at_call 74; refine (prio_may _ p).mono ?_; rintro e w1 ⟨rfl, rfl⟩; rw [HP.out]) | (go_at_call 65; refine (HH.out _ rfl).mono ?_; rintro e w1 ⟨rfl, rfl⟩; rw [HB.out]))
        go_ret
        exact ⟨rfl, Turn.same H.out (Kp.refl _ _)⟩
      | true =>
        have HB := hid hB
        obtain ⟨P, hm, hpm⟩ := H.out.mp
        obtain ⟨w4, hrun, hm4, hk4⟩ := hm.store (k := t) (v := p) HI.out.1 HI.out.2 (by omega) (by omega) (H.out.mplen hpm)
        have c0 := cell_two0 H.out.hh
        have T4 := hid (H.out.remap hm4 hk4 (perm_ch hpm H.out.ok.one hB) HOK.out)
        clear hB hm hpm hm4 hk4
        simp only [if_true]
        go_enter Try.func54, Try.ntmps54
        go_wp2_with (first | (go_at_call 68; refine (zero_no w wb pb V L H.out).mono ?_; rintro e w1 ⟨rfl, rfl⟩) | (go_at_call 73; refine (thread_any _ t).mono ?_; rintro e w1 ⟨rfl, rfl⟩; rw [HT.out]) | (go_at_call 74; refine (prio_may _ p).mono ?_; rintro e w1 ⟨rfl, rfl⟩; rw [HP.out]) | (go_at_call 65; refine (HH.out _ rfl).mono ?_; rintro e w1 ⟨rfl, rfl⟩; rw [HB.out]))
        go_ret
        exact ⟨rfl, T4.out⟩
theorem keys_del {l : List Int} (hn : l.Nodup) {i : Nat} (hi : i < l.length) {t : Int} (e : l[i]! = t) : l.take i ++ l.drop (i + 1) = l.filter fun k => !(k == t) := by
  have hs : l = l.take i ++ t :: l.drop (i + 1) := by
    rw [← e, getElem!_pos l i hi]
    simp
  have hn' := hn
  rw [hs, List.nodup_append] at hn'
  obtain ⟨-, h2, h3⟩ := hn'
  rw [List.nodup_cons] at h2
  conv => rhs; rw [hs]
  rw [List.filter_append, List.filter_cons_of_neg (by simp)]
  congr 1
  · rw [List.filter_eq_self.2]
    intro x hx
    have := h3 x hx t (by simp)
    simp [this]
  · rw [List.filter_eq_self.2]
    intro x hx
    simp
    rintro rfl
    exact h2.1 hx
theorem Wt.dropped {w w1 w2 : World} {wb pb g m cap : Nat} {ao : Option Addr} {L : List Dl} {P : Pcs} {t : Int} (h : Wt w wb pb (.slice ao m cap) L) (hao : ao = some ⟨g, 0, none⟩) (hm : Mp w1 pb P) (k1 : Kp w w1 [pb]) (hp : P.Perm (delP L t))
    (k2 : Kp w1 w2 [g]) {m' : Nat} (hn : Ns w2 0 (.slice (some ⟨g, 0, none⟩) m' cap) ((delP L t).map (·.1))) : Cut w (w2.setCell ⟨wb, 1, none⟩ (.slice (some ⟨g, 0, none⟩) m' cap)) wb pb (.slice ao m cap) (delP L t) := by
  subst hao
  have hne := h.ne
  have hl := h.lt
  have hg := hne.2 g rfl
  have hh2 : w2.heap[wb]? = some (.cells #[.map (some pb), .slice (some ⟨g, 0, none⟩) m cap] 100 (0, 0)) :=
    (k2.block wb (Nat.lt_of_lt_of_le hl.1 k1.size) (by simp; exact fun e => hg.1 e.symm)).trans ((k1.block wb hl.1 (by simp; exact hne.1)).trans h.hh)
  have ks := Kp.setCell w2 ⟨wb, 1, none⟩ (.slice (some ⟨g, 0, none⟩) m' cap)
  refine ⟨_, ⟨set_two1 hh2, ⟨P, ?_, hp⟩, ?_, h.ok.del t⟩, fun g' hg' => hg', ?_⟩
  · exact (hm.keep k2 (by simp; exact fun e => hg.2 e.symm)).keep ks (by simp; exact fun e => hne.1 e.symm)
  · exact hn.kp ks (fun g' hg' => by simp [Value.ownBlock] at hg'; subst hg'; simp; exact hg.1)
  · exact ((k1.mono (by simp [rows])).trans (k2.mono (by simp [rows, Value.ownBlock]))).trans (ks.mono (by simp [rows]))
set_option maxRecDepth 100000 in
set_option maxHeartbeats 1000000 in
theorem drop_any (w : World) (wb pb : Nat) (V : Value) (L : List Dl) (t : Int) (h : Wt w wb pb V L) (hB : hasP L t = true) :
    Calls Try.prog 72 #[.pointer (some ⟨wb, 0, none⟩), .int .i64 t] w fun e w' => e = .returned (.tuple #[]) ∧ Cut w w' wb pb V (delP L t) := by
  obtain ⟨x, hx, hxt⟩ := mem_has.1 hB
  have hr := (h.ok.rng x hx).1
  obtain ⟨P, hm, hpm⟩ := h.mp
  obtain ⟨w1, hrun, hm1, hk1⟩ := hm.drop (k := t) (by omega) (by omega) 0
  have c0 := cell_two0 h.hh
  have c1 : w1.cell? ⟨wb, 1, none⟩ = some V := hk1.cell (cell_two1 h.hh) (by simp; exact h.ne.1)
  have N1 := hid (h.ns.kp hk1 (fun g hg => by simp; exact (h.ne.2 g hg).2))
  obtain ⟨ao, cap, hV⟩ := h.ns.slice
  rw [List.length_map] at hV
  subst hV
  obtain ⟨N, hN⟩ : ∃ N, L.length = N := ⟨_, rfl⟩
  have HB := hid hB
  have HM := hid (And.intro hm1 (And.intro hk1 (And.intro (perm_del hpm t) hN)))
  rw [hN] at c1 N1 h
  have hfz : ∀ g W, ao = some ⟨g, 0, none⟩ → Kp w1 W [g] → W.frozen? ⟨wb, 1, none⟩ = false ∧ W.cell? ⟨wb, 1, none⟩ = some (.slice ao N cap) := fun g W hg hW => by
    have hb : W.heap[wb]? = _ := (hW.block wb (Nat.lt_of_lt_of_le h.lt.1 hk1.size) (by simp; exact fun e => (h.ne.2 g (by rw [hg]; rfl)).1 e.symm)).trans ((hk1.block wb h.lt.1 (by simp; exact h.ne.1)).trans h.hh)
    exact ⟨free_two hb 1, cell_two1 hb⟩
  have HF := hid hfz
  have hNl : N ≤ 16 := by have := h.ok.len; omega
  have HX := hid (show ∃ i, i < N ∧ (L.map (·.1))[i]! = t by
    obtain ⟨i, hi, e⟩ := List.getElem_of_mem hx
    refine ⟨i, by omega, ?_⟩
    rw [getElem!_pos _ i (by simpa using hi)]
    simp [e, hxt])
  rw [hN]
  have H := hid h
  clear h hm hpm hm1 hk1 hN hB hfz hx hxt hr
  go_enter Try.func72, Try.ntmps72
  go_wp2
  go_step3
  go_wp2
  go_step3
  go_wp2
  go_loopw [16] (fun v wr => ∃ i : Nat, i ≤ N ∧ v = .int .i64 i ∧ wr = w1 ∧ Hid (∀ j, j < i → (L.map (·.1))[j]! ≠ t)) (fun v _ => N - (intOf v).toNat)
  case atStart => exact ⟨0, Nat.zero_le _, rfl, rfl, fun j hj => by omega⟩
  case round =>
    obtain ⟨i, hi, rfl, rfl, hA⟩ := hrel
    by_cases hlt : i < N
    · have hltI : (i : Int) < N := by omega
      have hil : i < (L.map (·.1)).length := by have := HM.out.2.2.2; simp; omega
      obtain ⟨y, hy⟩ : ∃ y, (L.map (·.1))[i]! = y := ⟨_, rfl⟩
      obtain ⟨g, hao, ci, -⟩ := N1.out.at hil hy
      by_cases he : y = t
      · have D := hid (del_any (i := i) (g := g) (m := N) (cap := cap) (w := wr) (base := 0) (l := L.map (·.1)) (by have := N1.out; rw [hao] at this; exact this) hil)
        have HY := hid (hy.trans he)
        have HAO := hid hao
        have heI : (y == t) = true := by simp [he]
        clear he hy
        subst hao
        go_wp2_with fail
        refine D.out.mono ?_
        rintro e w2 ⟨rfl, hn2, hk2⟩
        obtain ⟨q1, q2⟩ := HF.out g w2 rfl hk2
        have T2 := hid (H.out.dropped (m' := N - 1) rfl HM.out.1 HM.out.2.1 HM.out.2.2.1 hk2 (by
          rw [del_keys, ← keys_del H.out.ok.one hil HY.out]
          exact hn2))
        clear hn2 hk2
        go_wp2
        rw [Exit.noGoto_normal]
        refine bodyPost_end (results_none rfl _ _ _) rfl ?_
        exact ⟨rfl, T2.out⟩
      · have heI : (y == t) = false := by simp [he]
        have HA2 := hid (show ∀ j, j < i + 1 → (L.map (·.1))[j]! ≠ t from fun j hj => by
          by_cases q : j < i
          · exact hA.out j q
          · rw [show j = i by omega, hy]; exact he)
        clear he hy
        subst hao
        go_wp2
        go_roundw
        case rel => exact ⟨i + 1, by omega, by simp, by trivial, HA2⟩
        case measure => simp [intOf]; omega
    · obtain ⟨j, hj, e⟩ := HX.out
      exact (hA.out j (by omega) e).elim
set_option maxRecDepth 100000 in
theorem leave_any (w : World) (wb pb : Nat) (V : Value) (L : List Dl) (t : Int) (h : Wt w wb pb V L) :
    Calls Try.prog 53 #[.pointer (some ⟨wb, 0, none⟩), .int .i64 t] w fun e w' => e = .returned (.int .i64 (lvE L t)) ∧ Turn w w' wb pb V (lvL L t) := by
  have H := hid h
  unfold lvE lvL
  cases hT : mayT t with
  | false =>
    have HT := hid hT
    clear h hT
    simp only [Bool.false_eq_true, if_false]
    go_enter Try.func53, Try.ntmps53
    go_wp2_with (first | (go_at_call 68; refine (zero_no w wb pb V L H.out).mono ?_; rintro e w1 ⟨rfl, rfl⟩) | (go_at_call 73; refine (thread_any _ t).mono ?_; rintro e w1 ⟨rfl, rfl⟩; rw [HT.out]))
    go_ret
    exact ⟨rfl, Turn.same H.out (Kp.refl _ _)⟩
  | true =>
    have ht : i64 t := by simp [mayT] at hT; constructor <;> omega
    have HT := hid hT
    have HH := hid (fun w1 (e : w1 = w) => has_any w1 (some ⟨wb, 0, none⟩) L t (by rw [e]; exact h.vw) ht)
    clear h hT ht
    simp only [if_true]
    cases hB : hasP L t with
    | false =>
      have HB := hid hB
      rw [del_none hB]
      clear hB
      simp only [Bool.false_eq_true, if_false]
      go_enter Try.func53, Try.ntmps53
      go_wp2_with (first | (go_at_call 68; refine (zero_no w wb pb V L H.out).mono ?_; rintro e w1 ⟨rfl, rfl⟩) | (go_at_call 73; refine (thread_any _ t).mono ?_; rintro e w1 ⟨rfl, rfl⟩; rw [HT.out]) | (go_at_call 65; refine (HH.out _ rfl).mono ?_; rintro e w1 ⟨rfl, rfl⟩; rw [HB.out]))
      go_ret
      exact ⟨rfl, Turn.same H.out (Kp.refl _ _)⟩
    | true =>
      have HB := hid hB
      have HD := hid (fun w1 (e : w1 = w) => drop_any w1 wb pb V L t (by rw [e]; exact H.out) hB)
      clear hB
      simp only [if_true]
      go_enter Try.func53, Try.ntmps53
      go_wp2_with (first | (go_at_call 68; refine (zero_no w wb pb V L H.out).mono ?_; rintro e w1 ⟨rfl, rfl⟩) | (go_at_call 73; refine (thread_any _ t).mono ?_; rintro e w1 ⟨rfl, rfl⟩; rw [HT.out]) | (go_at_call 65; refine (HH.out _ rfl).mono ?_; rintro e w1 ⟨rfl, rfl⟩; rw [HB.out]) | (go_at_call 72; refine (HD.out _ rfl).mono ?_; rintro e w2 ⟨rfl, hT2⟩; have T2 := hid hT2; clear hT2))
      go_ret
      exact ⟨rfl, T2.out.turn⟩
end Go.Proofs.Ytllkopekfanfaaa
