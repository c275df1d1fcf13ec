/- append, and where the row lies then; end. -/
import Derived.Test.YtojcmnanapeooaaHigh
import Derived.Deep.RegionLaw
namespace Go.Proofs.Ytojcmnanapeooaa
open Go.RowKit Go.Shelf
open Go.Lib hiding intOf

/-- append: the row stays where it was, or lies in new memory. -/
theorem push_where {w : World} (ty : TypeId) (V : Value) (l : List Dl) (hV : Dr w 0 V l) (ad : Addr) (m : List Dl) (cap : Nat) (hX : Dr w 0 (.slice (some ad) m.length cap) m) (hm0 : m ≠ []) (hl : l.length ≤ 1000000) (hm : m.length ≤ 1000000) :
    ∃ v' w', (Builtin.append_ #[42, 42] ty #[V, .slice (some ad) m.length cap]).run Try.prog w = .ok v' w' ∧ Dr w' 0 v' (l ++ m) ∧ w.grownBy w' V.ownBlock ∧ (v'.ownBlock = V.ownBlock ∨ v'.ownBlock = some w.heap.size) := by
  obtain ⟨i0, hi, hz0, hz1, hz2⟩ := info_parts Try.infoD
  obtain ⟨v', w', hr, h2, h3, -⟩ := run_append_own (P := Try.prog) w 0 42 ty 45 i0 (.agg #[.int .i64 0, .int .i64 0]) 2 16 Try.underlying42 hi hz0 hz1 hz2 rfl (by decide) V l.length (dcells l) hV ad m.length cap (dcells m) (dcells_length m) hX.cells (dcells_one m) (by unfold maxLen; omega) (by omega) (Nat.zero_le _)
  refine ⟨v', w', hr, by unfold Dr; rw [List.length_append, dcells_append]; exact h2, h3, ?_⟩
  have hmp : 0 < m.length := List.length_pos_iff.2 hm0
  have hlen : (dcells m).length = m.length * i0.size := by rw [hz1]; exact dcells_length m
  rcases hV.2 with ⟨rfl, h0⟩ | ⟨g, cp, cur, rfl, hbg, hg, hnc, hcm, hcs, htake⟩
  · have hr2 := run_append_nil (P := Try.prog) w 42 ty 45 i0 (.agg #[.int .i64 0, .int .i64 0]) Try.underlying42 hi hz0 ad m.length cap (dcells m) hlen hX.cells hmp (by omega) (by rw [hz2]; omega)
    have e := hr.symm.trans hr2
    injection e with e1 _
    rw [e1]
    exact .inr rfl
  · by_cases hroom : l.length + m.length ≤ cp
    · have hr2 := run_append_room (P := Try.prog) w 42 ty 45 i0 Try.underlying42 hi g l.length cp cur hg ad m.length cap (dcells m) hlen hX.cells (dcells_one m) hroom (by rw [hz1, hcs, dcells_length]; omega)
      have e := hr.symm.trans hr2
      injection e with e1 _
      rw [e1]
      exact .inl rfl
    · have hr2 := run_append_grow (P := Try.prog) w 42 ty 45 i0 (.agg #[.int .i64 0, .int .i64 0]) Try.underlying42 hi hz0 ⟨g, 0, none⟩ l.length cp (dcells l) (by rw [hz1]; exact dcells_length l) hV.cells ad m.length cap (dcells m) hlen hX.cells (by omega) (by omega) (by rw [hz2]; exact growslice_fits (by omega) (by omega))
      have e := hr.symm.trans hr2
      injection e with e1 _
      rw [e1]
      exact .inr rfl
theorem step_pushD {w : World} {ops : Array Oper} {o : Oper} {a : Act} {K : Act → World → Prop} {Q : Exit → Act → World → Prop} {E : Prop} (hgd : o.guard = none) (s x : Operand) (ho : o.op = .call { callee := .builtin .append, args := #[s, x], argTypes := #[42, 42] }) (D : Nat) (hD : o.dst = some D)
    (V : Value) (l : List Dl) (ad : Addr) (m : List Dl) (cap : Nat) (hs : a.eval s = V) (hV : Dr w 0 V l) (hx : a.eval x = .slice (some ad) m.length cap) (hX : Dr w 0 (.slice (some ad) m.length cap) m) (hm0 : m ≠ []) (hl : l.length ≤ 1000000) (hm : m.length ≤ 1000000)
    (h : ∀ v' w', Dr w' 0 v' (l ++ m) → w.grownBy w' V.ownBlock → (v'.ownBlock = V.ownBlock ∨ v'.ownBlock = some w.heap.size) → K (a.put (some D) v') w') :
    if Region.wanted o (yielded ops a.tmps) = true then Oper.wp Try.prog o a w K Q else E := by
  have hw : Region.wanted o (yielded ops a.tmps) = true := by simp [Region.wanted, hgd]
  rw [if_pos hw]
  rw [← hD] at h
  obtain ⟨v', w', hr, h2, h3, h4⟩ := push_where o.type V l hV ad m cap hX hm0 hl hm
  unfold Oper.wp execOp
  simp only [ho, resolve, invoke, builtin, Sem.run_bind, Sem.run_pure, Result.andThen_ok, List.map_toArray, List.map_cons, List.map_nil, hs, hx, hr]
  exact h v' w' h2 h3 h4

/-- The pieces behind an end. -/
def endP (si p least u : Int) (P : List Dl) : List Dl := if 0 < u then P ++ [(atT si p least, u)] else P
set_option maxRecDepth 100000 in
set_option maxHeartbeats 1000000 in
theorem end_any (w : World) (sb : Nat) (p m l : Int) (a : Bool) (si u : Int) (v : Value) (P : List Dl) (least : Int) (hc : Sc w sb p m l a si u v) (hr : Dr w 0 v P) (hs0 : 0 ≤ si) (hs1 : si ≤ 1099511627776) (hp0 : 0 ≤ p) (hp1 : p ≤ 1099511627776) (hP : P.length ≤ 1000) :
    Calls Try.prog 32 #[.pointer (some ⟨sb, 0, none⟩), .int .i64 least] w fun e w' => e = .returned (.tuple #[]) ∧ (∃ v', Sc w' sb p m l false 0 0 v' ∧ Dr w' 0 v' (endP si p least u P) ∧ ∀ g, v'.ownBlock = some g → v.ownBlock = some g ∨ w.heap.size ≤ g) ∧ Kp w w' (rws sb v) := by
  obtain ⟨ao, cap, rfl⟩ := hr.slice
  obtain ⟨c0, -, -, c3, c4, c5, c6⟩ := hc.c
  have f3 := hc.free 3
  have f4 := hc.free 4
  have f5 := hc.free 5
  have f6 := hc.free 6
  have H := hid hc
  have HR := hid hr
  have hlt := hc.lt
  have hne : sb ≠ w.heap.size := by omega
  obtain ⟨N, hN⟩ : ∃ N, P.length = N := ⟨_, rfl⟩
  have HN := hid hN
  rw [hN] at c6 H HR ⊢
  have HP := hid hP
  clear hc hr hN hP
  have hsp : (0 : Int) ≤ si + p ∧ si + p ≤ 2199023255552 := by omega
  have hwr : IntKind.i64.wrap (si + p) = si + p := by rw [IntKind.wrap_i64]; omega
  by_cases hu : 0 < u
  · have e1 : endP si p least u P = P ++ [(atT si p least, u)] := by unfold endP; rw [if_pos hu]
    rw [e1]
    clear e1
    obtain ⟨T, hT⟩ : ∃ T, atT si p least = T := ⟨_, rfl⟩
    rw [hT]
    have HT := hid hT
    clear hT
    go_enter Try.func32, Try.ntmps32
    go_wp2_with fail
    go_region
    go_wp2_with fail
    rw [show max (si + p) least = T from HT.out]
    clear hwr hsp
    have CK := hid (fun (W : World) (hK : Kp w W (Value.slice ao N cap).ownBlock.toList) => (show (W.cell? ⟨sb, 3, none⟩ = some (.bool a) ∧ W.cell? ⟨sb, 4, none⟩ = some (.int .i64 si) ∧ W.cell? ⟨sb, 5, none⟩ = some (.int .i64 u) ∧ W.cell? ⟨sb, 6, none⟩ = some (.slice ao N cap)) ∧ W.frozen? ⟨sb, 3, none⟩ = false ∧ W.frozen? ⟨sb, 4, none⟩ = false ∧ W.frozen? ⟨sb, 5, none⟩ = false ∧ W.frozen? ⟨sb, 6, none⟩ = false from by
      have hb := H.out.keep hK (fun hm => HR.out.apart H.out (by decide) (by simpa using hm))
      exact ⟨⟨hb.c.2.2.2.1, hb.c.2.2.2.2.1, hb.c.2.2.2.2.2.1, hb.c.2.2.2.2.2.2⟩, hb.free 3, hb.free 4, hb.free 5, hb.free 6⟩))
    have K1 := hid ((Kp.drew w []).trans (Kp.drew w.drew []))
    have KA := hid (K1.out.trans (Kp.alloc _ (.cells #[.int .i64 T, .int .i64 u] 45) []))
    have HO := hid ((Dr.one w.drew.drew T u).low (Nat.zero_le _))
    clear c0 c3 c4 f3 f4 f5
    obtain ⟨⟨-, -, p1, p2⟩, -, -, -, p3⟩ := CK.out w.drew.drew K1.out.nil
    obtain ⟨⟨-, -, p4, p5⟩, -, -, -, p6⟩ := CK.out (w.drew.drew.alloc (.cells #[.int .i64 T, .int .i64 u] 45)) KA.out.nil
    go_region_law
      (first
        | (refine step_pushD (by rfl) _ _ (by rfl) 36 (by rfl) (.slice ao N cap) P _ [(T, u)] _ (by rfl) (HR.out.keep KA.out) (by rfl) HO.out (by simp) (by have := HP.out; omega) (by simp) ?_; intro v7 w7 hd7 hg7 hw7; obtain ⟨a7, c7, hv7⟩ := hd7.slice; have K7 := hid (KA.out.nil.trans (Kp.ofGrown (rows := (Value.slice ao N cap).ownBlock.toList) hg7 (by intro g hg; simpa using hg))); obtain ⟨⟨q1, q2, q3, q4⟩, q5, q6, q7, q8⟩ := CK.out _ K7.out; have H7 := hid (And.intro hd7 hw7); clear hd7 hg7 hw7)
        | fail)
    all_goals (
      rw [show (P ++ [(T, u)]).length = P.length + 1 by simp] at hv7
      have HF := hid (show (∃ v', Sc ((((w7.setCell ⟨sb, 6, none⟩ (.slice a7 (P.length + 1) c7)).setCell ⟨sb, 3, none⟩ (.bool false)).setCell ⟨sb, 4, none⟩ (.int .i64 0)).setCell ⟨sb, 5, none⟩ (.int .i64 0)) sb p m l false 0 0 v' ∧ Dr ((((w7.setCell ⟨sb, 6, none⟩ (.slice a7 (P.length + 1) c7)).setCell ⟨sb, 3, none⟩ (.bool false)).setCell ⟨sb, 4, none⟩ (.int .i64 0)).setCell ⟨sb, 5, none⟩ (.int .i64 0)) 0 v' (P ++ [(T, u)]) ∧ ∀ g, v'.ownBlock = some g → (Value.slice ao N cap).ownBlock = some g ∨ w.heap.size ≤ g) ∧ Kp w ((((w7.setCell ⟨sb, 6, none⟩ (.slice a7 (P.length + 1) c7)).setCell ⟨sb, 3, none⟩ (.bool false)).setCell ⟨sb, 4, none⟩ (.int .i64 0)).setCell ⟨sb, 5, none⟩ (.int .i64 0)) (rws sb (.slice ao N cap)) by
        have hb := H.out.keep K7.out (fun hm => HR.out.apart H.out (by decide) (by simpa using hm))
        have hb4 := (((hb.set6 (.slice a7 (P.length + 1) c7)).set3 false).set4 0).set5 0
        have kk : Kp w7 ((((w7.setCell ⟨sb, 6, none⟩ (.slice a7 (P.length + 1) c7)).setCell ⟨sb, 3, none⟩ (.bool false)).setCell ⟨sb, 4, none⟩ (.int .i64 0)).setCell ⟨sb, 5, none⟩ (.int .i64 0)) [sb] := (((Kp.setCell w7 ⟨sb, 6, none⟩ _).trans (Kp.setCell _ ⟨sb, 3, none⟩ _)).trans (Kp.setCell _ ⟨sb, 4, none⟩ _)).trans (Kp.setCell _ ⟨sb, 5, none⟩ _)
        have h7 := H7.out
        rw [hv7] at h7
        refine ⟨⟨_, hb4, h7.1.kp kk fun g hg e => h7.1.apart hb (by decide) (by simp only [List.mem_singleton] at e; rw [← e]; exact hg), fun g hg => ?_⟩, (K7.out.mono (by intro k hk _; simp only [List.mem_cons]; exact .inr hk)).trans (kk.mono (by intro k hk _; simp at hk; simp [hk]))⟩
        rcases h7.2 with q | q
        · exact .inl (q ▸ hg)
        · refine .inr ?_
          rw [q] at hg
          simp at hg
          have := K1.out.size
          omega)
      subst hv7
      go_wp2_with fail
      refine bodyPost_end (results_none rfl _ _ _) rfl ?_
      exact ⟨rfl, HF.out⟩)
  · have e1 : endP si p least u P = P := by unfold endP; rw [if_neg hu]
    rw [e1]
    clear e1
    have HF := hid (show (∃ v', Sc (((w.setCell ⟨sb, 3, none⟩ (.bool false)).setCell ⟨sb, 4, none⟩ (.int .i64 0)).setCell ⟨sb, 5, none⟩ (.int .i64 0)) sb p m l false 0 0 v' ∧ Dr (((w.setCell ⟨sb, 3, none⟩ (.bool false)).setCell ⟨sb, 4, none⟩ (.int .i64 0)).setCell ⟨sb, 5, none⟩ (.int .i64 0)) 0 v' P ∧ ∀ g, v'.ownBlock = some g → (Value.slice ao N cap).ownBlock = some g ∨ w.heap.size ≤ g) ∧ Kp w (((w.setCell ⟨sb, 3, none⟩ (.bool false)).setCell ⟨sb, 4, none⟩ (.int .i64 0)).setCell ⟨sb, 5, none⟩ (.int .i64 0)) (rws sb (.slice ao N cap)) by
      have kk : Kp w (((w.setCell ⟨sb, 3, none⟩ (.bool false)).setCell ⟨sb, 4, none⟩ (.int .i64 0)).setCell ⟨sb, 5, none⟩ (.int .i64 0)) [sb] := ((Kp.setCell w ⟨sb, 3, none⟩ _).trans (Kp.setCell _ ⟨sb, 4, none⟩ _)).trans (Kp.setCell _ ⟨sb, 5, none⟩ _)
      exact ⟨⟨_, ((H.out.set3 false).set4 0).set5 0, HR.out.kp kk fun g hg e => HR.out.apart H.out (by decide) (by simp only [List.mem_singleton] at e; rw [← e]; exact hg), fun g hg => .inl hg⟩, kk.mono (by intro k hk _; simp at hk; simp [hk])⟩)
    go_enter Try.func32, Try.ntmps32
    go_wp2_with fail
    try rw [Exit.noGoto_normal]
    refine bodyPost_end (results_none rfl _ _ _) rfl ?_
    exact ⟨rfl, HF.out⟩
end Go.Proofs.Ytojcmnanapeooaa
