/- The reference: Same. -/
import Derived.BigQuiet
import Derived.Deep.RegionHeldLaw
import Derived.Deep.RegionWith
import Derived.Deep.RegionLaw
import Derived.Test.YtllkopekfanfaaaRvJ
import Derived.Test.YtllkopekfanfaaaRlistJ
import Derived.Test.YtllkopekfanfaaaDe
namespace Go.Proofs.Ytllkopekfanfaaa
open Go.RowKit Go.Shelf Go.Lib Go.Sort Go.Maps
attribute [local go_sem] Oper.semAt_some

variable {w w' : World}
theorem act_eq {P : Program} {c : Code} {Q : Exit → Act → World → Prop} {a a' : Act} {w : World} (h : a = a') (hw : Code.wp P c Q a' w) : Code.wp P c Q a w := h ▸ hw
theorem eqF_iff {F G : MF} : eqF F G = true ↔ ∀ t : Nat, t < 16 → F t = G t := by
  unfold eqF ks
  simp
theorem Ri.ff {rb sb tb : Nat} {V : Value} {Rl : Ml} {g : Nat → Int × Int} {M : Qs} (h : Ri w rb sb tb V Rl g M) (ok : Qok M) {t : Nat} (ht : t < 16) : M.f t = if hasP M.s t then some (g t) else none := by
  split
  · rename_i hp
    exact h.tie t ht hp
  · rename_i hp
    have := ok.fs t
    rw [not_has hp] at this
    simpa using this
set_option maxRecDepth 100000 in
set_option maxHeartbeats 4000000 in
theorem rqsame (w : World) (q1 a1 b1 q2 a2 b2 : Nat) (V1 V2 : Value) (R1 R2 : Ml) (g1 g2 : Nat → Int × Int) (M M' : Qs) (h : Ri w q1 a1 b1 V1 R1 g1 M) (h' : Ri w q2 a2 b2 V2 R2 g2 M') (ok : Qok M) (ok' : Qok M') : Calls Try.prog 14 #[.pointer (some ⟨q1, 0, none⟩), .pointer (some ⟨q2, 0, none⟩)] w fun e w' => e = .returned (.bool (sameQ M M')) ∧ Kp w w' [] := by
  have HO1 := hid (fun (z : World) (hk : Kp w z []) => rorderM_any z q1 a1 b1 V1 R1 g1 M (h.same hk))
  have HO2 := hid (fun (z : World) (hk : Kp w z []) => rorderM_any z q2 a2 b2 V2 R2 g2 M' (h'.same hk))
  have HST := hid (fun (z : World) (hk : Kp w z []) => And.intro (h.same hk).c0 (And.intro (h.same hk).c2 (And.intro (h.same hk).c3 (And.intro (h'.same hk).c0 (And.intro (h'.same hk).c2 (h'.same hk).c3)))))
  have HS := hid (fun (z : World) (hk : Kp w z []) => rsame_any z a1 a2 M.s M'.s (h.same hk).rs (h'.same hk).rs ok.s.len ok'.s.len)
  have HR := hid (fun (z : World) (hk : Kp w z []) => rsame_any z b1 b2 M.r M'.r (h.same hk).rr (h'.same hk).rr ok.r.len ok'.r.len)
  have HW := hid (fun (z : World) (hk : Kp w z []) (t : Int) => rwaiting_any (h.same hk) t)
  have HM := hid (fun (z : World) (hk : Kp w z []) (t : Nat) (ht : t < 16) => And.intro ((h.same hk).mc ht) ((h'.same hk).mc ht))
  have HF := hid (fun (t : Nat) (ht : t < 16) => And.intro (h.ff ok ht) (h'.ff ok' ht))
  have h32 : M.L.length ≤ 32 := by have := ok.len; have := ok.hi; omega
  clear h h' ok ok'
  obtain ⟨B, hB⟩ : ∃ B, sameQ M M' = B := ⟨_, rfl⟩
  rw [hB]
  go_enter Try.func14, Try.ntmps14
  go_wp2_with fail
  refine (HO1.out _ (Kp.refl _ _)).mono ?_
  rintro e w1 ⟨v1, rfl, hm1, hk1⟩
  obtain ⟨av1, cv1, rfl⟩ := hm1.slice
  go_wp2_with fail
  refine (HO2.out _ hk1).mono ?_
  rintro e w2 ⟨v2, rfl, hm2, hk2⟩
  obtain ⟨av2, cv2, rfl⟩ := hm2.slice
  have K0 := hid ((hk1.trans hk2).trans (Kp.drew w2 []))
  have L1 := hid ((hm1.keep hk2).keep (Kp.drew w2 []))
  have L2 := hid (hm2.keep (Kp.drew w2 []))
  clear hm1 hm2 hk1 hk2
  obtain ⟨N1, hN1⟩ : ∃ N, M.L.length = N := ⟨_, rfl⟩
  obtain ⟨N2, hN2⟩ : ∃ N, M'.L.length = N := ⟨_, rfl⟩
  have HN := hid (And.intro hN1 hN2)
  rw [hN1] at L1 h32 ⊢
  rw [hN2] at L2 ⊢
  have HB := hid hB
  obtain ⟨X, hX⟩ : ∃ X, M.n = X := ⟨_, rfl⟩
  obtain ⟨Y, hY⟩ : ∃ Y, M'.n = Y := ⟨_, rfl⟩
  rw [hX, hY] at HST
  obtain ⟨B3, h3⟩ : ∃ B, decide (M.s = M'.s) = B := ⟨_, rfl⟩
  obtain ⟨B4, h4⟩ : ∃ B, decide (M.r = M'.r) = B := ⟨_, rfl⟩
  rw [h3] at HS
  rw [h4] at HR
  have HXY := hid (show M.n = X ∧ M'.n = Y ∧ decide (M.s = M'.s) = B3 ∧ decide (M.r = M'.r) = B4 from ⟨hX, hY, h3, h4⟩)
  have hBn : sameQ M M' = (decide (X = Y) && (decide (M.L = M'.L) && (eqF M.f M'.f && (B3 && B4)))) := by unfold sameQ; rw [hX, hY, h3, h4]
  have HBN := hid (hB.symm.trans hBn)
  clear hX hY h3 h4 hB hN1 hN2 hBn
  go_wp2_with fail
  by_cases hx : X = Y
  · subst hx
    have hb : (X != X) = false := by simp
    by_cases hn : N1 = N2
    · subst hn
      have hn1 : ((N1 : Int) != N1) = false := by simp
      cases B3 with
      | false =>
        have hBf : B = false := by rw [HBN.out]; simp []
        subst hBf
        rename_i QQ KK hKK
        refine wp_region_held_drew (S := fun W : World => W.cell? ⟨q1, 0, none⟩ = some (.int .i64 X) ∧ W.cell? ⟨q1, 2, none⟩ = some (.pointer (some ⟨a1, 0, none⟩)) ∧ W.cell? ⟨q1, 3, none⟩ = some (.pointer (some ⟨b1, 0, none⟩)) ∧ W.cell? ⟨q2, 0, none⟩ = some (.int .i64 X) ∧ W.cell? ⟨q2, 2, none⟩ = some (.pointer (some ⟨a2, 0, none⟩)) ∧ W.cell? ⟨q2, 3, none⟩ = some (.pointer (some ⟨b2, 0, none⟩))) (by kernel_rfl) (HST.out _ K0.out) (fun hHeld => ?_)
        refine wpAnyH_take (i := 0) (v := .pointer (some ⟨q1, 0, none⟩)) rfl (by kernel_rfl) (by kernel_rfl) (by kernel_rfl) (fun _ _ _ h => h) (Or.inl ⟨by kernel_rfl, fun w _ => by kernel_rfl⟩) hHeld ?_
        refine wpAnyH_take (i := 1) (v := .pointer (some ⟨q1, 0, none⟩)) rfl (by kernel_rfl) (by kernel_rfl) (by kernel_rfl) (fun _ _ _ h => h) (Or.inl ⟨by kernel_rfl, fun w _ => by kernel_rfl⟩) hHeld ?_
        refine wpAnyH_take (i := 2) (v := .pointer (some ⟨q1, 0, none⟩)) rfl (by kernel_rfl) (by kernel_rfl) (by kernel_rfl) (fun _ _ _ h => h) (Or.inl ⟨by kernel_rfl, fun w _ => by kernel_rfl⟩) hHeld ?_
        refine wpAnyH_take (i := 3) (v := .int .i64 X) rfl (by kernel_rfl) (by kernel_rfl) (by kernel_rfl) (fun _ _ _ h => h) (Or.inl ⟨by kernel_rfl, by intro w hSw; obtain ⟨s0, s1, s2, s3, s4, s5⟩ := hSw; go_simp⟩) hHeld ?_
        refine wpAnyH_take (i := 4) (v := .pointer (some ⟨q2, 0, none⟩)) rfl (by kernel_rfl) (by kernel_rfl) (by kernel_rfl) (fun _ _ _ h => h) (Or.inl ⟨by kernel_rfl, fun w _ => by kernel_rfl⟩) hHeld ?_
        refine wpAnyH_take (i := 5) (v := .pointer (some ⟨q2, 0, none⟩)) rfl (by kernel_rfl) (by kernel_rfl) (by kernel_rfl) (fun _ _ _ h => h) (Or.inl ⟨by kernel_rfl, fun w _ => by kernel_rfl⟩) hHeld ?_
        refine wpAnyH_take (i := 6) (v := .pointer (some ⟨q2, 0, none⟩)) rfl (by kernel_rfl) (by kernel_rfl) (by kernel_rfl) (fun _ _ _ h => h) (Or.inl ⟨by kernel_rfl, fun w _ => by kernel_rfl⟩) hHeld ?_
        refine wpAnyH_take (i := 7) (v := .int .i64 X) rfl (by kernel_rfl) (by kernel_rfl) (by kernel_rfl) (fun _ _ _ h => h) (Or.inl ⟨by kernel_rfl, by intro w hSw; obtain ⟨s0, s1, s2, s3, s4, s5⟩ := hSw; go_simp⟩) hHeld ?_
        refine wpAnyH_take (i := 8) (v := .bool false) rfl (by kernel_rfl) (by kernel_rfl) (by kernel_rfl) (fun _ _ _ h => h) (Or.inl ⟨by kernel_rfl, fun w _ => by go_simp⟩) hHeld ?_
        refine wpAnyH_take (i := 9) (v := .bool false) rfl (by kernel_rfl) (by kernel_rfl) (by kernel_rfl) (fun _ _ _ h => h) (Or.inl ⟨by kernel_rfl, fun w _ => by kernel_rfl⟩) hHeld ?_
        refine wpAnyH_take (i := 10) (v := .slice av1 N1 cv1) rfl (by kernel_rfl) (by kernel_rfl) (by kernel_rfl) (fun _ _ _ h => h) (Or.inl ⟨by kernel_rfl, fun w _ => by kernel_rfl⟩) hHeld ?_
        refine wpAnyH_take (i := 11) (v := .int .i64 N1) rfl (by kernel_rfl) (by kernel_rfl) (by kernel_rfl) (fun _ _ _ h => h) (Or.inl ⟨by kernel_rfl, fun w _ => by go_simp⟩) hHeld ?_
        refine wpAnyH_take (i := 12) (v := .slice av2 N1 cv2) rfl (by kernel_rfl) (by kernel_rfl) (by kernel_rfl) (fun _ _ _ h => h) (Or.inl ⟨by kernel_rfl, fun w _ => by kernel_rfl⟩) hHeld ?_
        refine wpAnyH_take (i := 13) (v := .int .i64 N1) rfl (by kernel_rfl) (by kernel_rfl) (by kernel_rfl) (fun _ _ _ h => h) (Or.inl ⟨by kernel_rfl, fun w _ => by go_simp⟩) hHeld ?_
        refine wpAnyH_take (i := 14) (v := .bool false) rfl (by kernel_rfl) (by kernel_rfl) (by kernel_rfl) (fun _ _ _ h => h) (Or.inl ⟨by kernel_rfl, fun w _ => by go_simp⟩) hHeld ?_
        refine wpAnyH_take (i := 15) (v := .bool false) rfl (by kernel_rfl) (by kernel_rfl) (by kernel_rfl) (fun _ _ _ h => h) (Or.inl ⟨by kernel_rfl, fun w _ => by go_simp⟩) hHeld ?_
        refine wpAnyH_take (i := 16) (v := .bool false) rfl (by kernel_rfl) (by kernel_rfl) (by kernel_rfl) (fun _ _ _ h => h) (Or.inl ⟨by kernel_rfl, fun w _ => by kernel_rfl⟩) hHeld ?_
        refine wpAnyH_take (i := 17) (v := .pointer (some ⟨q1, 0, none⟩)) rfl (by kernel_rfl) (by kernel_rfl) (by kernel_rfl) (fun _ _ _ h => h) (Or.inl ⟨by kernel_rfl, fun w _ => by kernel_rfl⟩) hHeld ?_
        refine wpAnyH_take (i := 18) (v := .pointer (some ⟨q1, 0, none⟩)) rfl (by kernel_rfl) (by kernel_rfl) (by kernel_rfl) (fun _ _ _ h => h) (Or.inl ⟨by kernel_rfl, fun w _ => by kernel_rfl⟩) hHeld ?_
        refine wpAnyH_take (i := 19) (v := .pointer (some ⟨q1, 2, none⟩)) rfl (by kernel_rfl) (by kernel_rfl) (by kernel_rfl) (fun _ _ _ h => h) (Or.inl ⟨by kernel_rfl, fun w _ => by kernel_rfl⟩) hHeld ?_
        refine wpAnyH_take (i := 20) (v := .pointer (some ⟨a1, 0, none⟩)) rfl (by kernel_rfl) (by kernel_rfl) (by kernel_rfl) (fun _ _ _ h => h) (Or.inl ⟨by kernel_rfl, by intro w hSw; obtain ⟨s0, s1, s2, s3, s4, s5⟩ := hSw; go_simp⟩) hHeld ?_
        refine wpAnyH_take (i := 21) (v := .pointer (some ⟨q2, 0, none⟩)) rfl (by kernel_rfl) (by kernel_rfl) (by kernel_rfl) (fun _ _ _ h => h) (Or.inl ⟨by kernel_rfl, fun w _ => by kernel_rfl⟩) hHeld ?_
        refine wpAnyH_take (i := 22) (v := .pointer (some ⟨q2, 0, none⟩)) rfl (by kernel_rfl) (by kernel_rfl) (by kernel_rfl) (fun _ _ _ h => h) (Or.inl ⟨by kernel_rfl, fun w _ => by kernel_rfl⟩) hHeld ?_
        refine wpAnyH_take (i := 23) (v := .pointer (some ⟨q2, 2, none⟩)) rfl (by kernel_rfl) (by kernel_rfl) (by kernel_rfl) (fun _ _ _ h => h) (Or.inl ⟨by kernel_rfl, fun w _ => by kernel_rfl⟩) hHeld ?_
        refine wpAnyH_take (i := 24) (v := .pointer (some ⟨a2, 0, none⟩)) rfl (by kernel_rfl) (by kernel_rfl) (by kernel_rfl) (fun _ _ _ h => h) (Or.inl ⟨by kernel_rfl, by intro w hSw; obtain ⟨s0, s1, s2, s3, s4, s5⟩ := hSw; go_simp⟩) hHeld ?_
        refine wpAnyH_ready (rs := [25]) (by kernel_rfl) (by simp) ?_
        refine AllReadyH.cons rfl (fun K hK => ?_) AllReadyH.nil
        go_simp
        refine (HS.out _ K0.out).mono ?_
        rintro e z1 ⟨rfl, hk⟩
        have K1 := hid (K0.out.trans hk)
        have L1 := hid (L1.out.keep hk)
        have L2 := hid (L2.out.keep hk)
        clear hk
        go_simp
        refine hK.out _ _ (HST.out _ K1.out) (fun hHeld => ?_)
        refine wpAnyH_take (i := 26) (v := .bool true) rfl (by kernel_rfl) (by kernel_rfl) (by kernel_rfl) (fun _ _ _ h => h) (Or.inl ⟨by kernel_rfl, fun w _ => by go_simp⟩) hHeld ?_
        refine wpAnyH_take (i := 27) (v := .bool true) rfl (by kernel_rfl) (by kernel_rfl) (by kernel_rfl) (fun _ _ _ h => h) (Or.inl ⟨by kernel_rfl, fun w _ => by go_simp⟩) hHeld ?_
        refine wpAnyH_take (i := 28) (v := .bool true) rfl (by kernel_rfl) (by kernel_rfl) (by kernel_rfl) (fun _ _ _ h => h) (Or.inl ⟨by kernel_rfl, fun w _ => by kernel_rfl⟩) hHeld ?_
        refine wpAnyH_take (i := 29) (v := undef) rfl (by kernel_rfl) (by kernel_rfl) (by kernel_rfl) (fun _ _ _ h => h) (Or.inr ⟨by kernel_rfl, rfl⟩) hHeld ?_
        refine wpAnyH_take (i := 30) (v := undef) rfl (by kernel_rfl) (by kernel_rfl) (by kernel_rfl) (fun _ _ _ h => h) (Or.inr ⟨by kernel_rfl, rfl⟩) hHeld ?_
        refine wpAnyH_take (i := 31) (v := undef) rfl (by kernel_rfl) (by kernel_rfl) (by kernel_rfl) (fun _ _ _ h => h) (Or.inr ⟨by kernel_rfl, rfl⟩) hHeld ?_
        refine wpAnyH_take (i := 32) (v := undef) rfl (by kernel_rfl) (by kernel_rfl) (by kernel_rfl) (fun _ _ _ h => h) (Or.inr ⟨by kernel_rfl, rfl⟩) hHeld ?_
        refine wpAnyH_take (i := 33) (v := undef) rfl (by kernel_rfl) (by kernel_rfl) (by kernel_rfl) (fun _ _ _ h => h) (Or.inr ⟨by kernel_rfl, rfl⟩) hHeld ?_
        refine wpAnyH_take (i := 34) (v := undef) rfl (by kernel_rfl) (by kernel_rfl) (by kernel_rfl) (fun _ _ _ h => h) (Or.inr ⟨by kernel_rfl, rfl⟩) hHeld ?_
        refine wpAnyH_take (i := 35) (v := undef) rfl (by kernel_rfl) (by kernel_rfl) (by kernel_rfl) (fun _ _ _ h => h) (Or.inr ⟨by kernel_rfl, rfl⟩) hHeld ?_
        refine wpAnyH_take (i := 36) (v := undef) rfl (by kernel_rfl) (by kernel_rfl) (by kernel_rfl) (fun _ _ _ h => h) (Or.inr ⟨by kernel_rfl, rfl⟩) hHeld ?_
        refine wpAnyH_take (i := 37) (v := undef) rfl (by kernel_rfl) (by kernel_rfl) (by kernel_rfl) (fun _ _ _ h => h) (Or.inr ⟨by kernel_rfl, rfl⟩) hHeld ?_
        refine wpAnyH_take (i := 38) (v := undef) rfl (by kernel_rfl) (by kernel_rfl) (by kernel_rfl) (fun _ _ _ h => h) (Or.inr ⟨by kernel_rfl, rfl⟩) hHeld ?_
        refine wpAnyH_take (i := 39) (v := .bool true) rfl (by kernel_rfl) (by kernel_rfl) (by kernel_rfl) (fun _ _ _ h => h) (Or.inl ⟨by kernel_rfl, fun w _ => by go_simp⟩) hHeld ?_
        refine wpAnyH_done (by kernel_rfl) ?_ _
        refine hKK _ _ ?_
        refine act_eq (a' := ⟨#[.pointer (some ⟨q1, 0, none⟩), .pointer (some ⟨q2, 0, none⟩), undef, undef, .bool false, .slice av1 N1 cv1, .slice av2 N1 cv2, undef, undef, undef, undef, .pointer (some ⟨q1, 0, none⟩), .bool false, .bool false, .pointer (some ⟨q2, 0, none⟩), .bool false, .bool false, undef, undef, undef, undef, undef, undef, .pointer (some ⟨q1, 0, none⟩), .slice av1 N1 cv1, .pointer (some ⟨q2, 0, none⟩), .slice av2 N1 cv2, .pointer (some ⟨q1, 0, none⟩), .pointer (some ⟨q1, 0, none⟩), .pointer (some ⟨q1, 0, none⟩), .int .i64 X, .pointer (some ⟨q2, 0, none⟩), .pointer (some ⟨q2, 0, none⟩), .pointer (some ⟨q2, 0, none⟩), .int .i64 X, .bool false, .bool false, .slice av1 N1 cv1, .int .i64 N1, .slice av2 N1 cv2, .int .i64 N1, .bool false, .bool false, .bool false, .pointer (some ⟨q1, 0, none⟩), .pointer (some ⟨q1, 0, none⟩), .pointer (some ⟨q1, 2, none⟩), .pointer (some ⟨a1, 0, none⟩), .pointer (some ⟨q2, 0, none⟩), .pointer (some ⟨q2, 0, none⟩), .pointer (some ⟨q2, 2, none⟩), .pointer (some ⟨a2, 0, none⟩), .bool false, .bool true, .bool true, .bool true, undef, undef, undef, undef, undef, undef, undef, undef, undef, undef, .bool true, undef, undef, undef, undef, undef, undef, undef, undef, undef, undef, undef, undef, undef, undef, undef, undef, undef, undef, undef, undef, undef, undef, undef, undef, undef, undef, undef, undef, undef, undef, undef, undef, undef, undef, undef, undef, undef, undef, undef, undef, undef], []⟩) (by kernel_rfl) ?_
        clear HST HS HR HW HM HF HO1 HO2
        go_wp2
        go_ret
        exact ⟨rfl, K1.out⟩
      | true =>
        cases B4 with
        | false =>
          have hBf : B = false := by rw [HBN.out]; simp []
          subst hBf
          rename_i QQ KK hKK
          refine wp_region_held_drew (S := fun W : World => W.cell? ⟨q1, 0, none⟩ = some (.int .i64 X) ∧ W.cell? ⟨q1, 2, none⟩ = some (.pointer (some ⟨a1, 0, none⟩)) ∧ W.cell? ⟨q1, 3, none⟩ = some (.pointer (some ⟨b1, 0, none⟩)) ∧ W.cell? ⟨q2, 0, none⟩ = some (.int .i64 X) ∧ W.cell? ⟨q2, 2, none⟩ = some (.pointer (some ⟨a2, 0, none⟩)) ∧ W.cell? ⟨q2, 3, none⟩ = some (.pointer (some ⟨b2, 0, none⟩))) (by kernel_rfl) (HST.out _ K0.out) (fun hHeld => ?_)
          refine wpAnyH_take (i := 0) (v := .pointer (some ⟨q1, 0, none⟩)) rfl (by kernel_rfl) (by kernel_rfl) (by kernel_rfl) (fun _ _ _ h => h) (Or.inl ⟨by kernel_rfl, fun w _ => by kernel_rfl⟩) hHeld ?_
          refine wpAnyH_take (i := 1) (v := .pointer (some ⟨q1, 0, none⟩)) rfl (by kernel_rfl) (by kernel_rfl) (by kernel_rfl) (fun _ _ _ h => h) (Or.inl ⟨by kernel_rfl, fun w _ => by kernel_rfl⟩) hHeld ?_
          refine wpAnyH_take (i := 2) (v := .pointer (some ⟨q1, 0, none⟩)) rfl (by kernel_rfl) (by kernel_rfl) (by kernel_rfl) (fun _ _ _ h => h) (Or.inl ⟨by kernel_rfl, fun w _ => by kernel_rfl⟩) hHeld ?_
          refine wpAnyH_take (i := 3) (v := .int .i64 X) rfl (by kernel_rfl) (by kernel_rfl) (by kernel_rfl) (fun _ _ _ h => h) (Or.inl ⟨by kernel_rfl, by intro w hSw; obtain ⟨s0, s1, s2, s3, s4, s5⟩ := hSw; go_simp⟩) hHeld ?_
          refine wpAnyH_take (i := 4) (v := .pointer (some ⟨q2, 0, none⟩)) rfl (by kernel_rfl) (by kernel_rfl) (by kernel_rfl) (fun _ _ _ h => h) (Or.inl ⟨by kernel_rfl, fun w _ => by kernel_rfl⟩) hHeld ?_
          refine wpAnyH_take (i := 5) (v := .pointer (some ⟨q2, 0, none⟩)) rfl (by kernel_rfl) (by kernel_rfl) (by kernel_rfl) (fun _ _ _ h => h) (Or.inl ⟨by kernel_rfl, fun w _ => by kernel_rfl⟩) hHeld ?_
          refine wpAnyH_take (i := 6) (v := .pointer (some ⟨q2, 0, none⟩)) rfl (by kernel_rfl) (by kernel_rfl) (by kernel_rfl) (fun _ _ _ h => h) (Or.inl ⟨by kernel_rfl, fun w _ => by kernel_rfl⟩) hHeld ?_
          refine wpAnyH_take (i := 7) (v := .int .i64 X) rfl (by kernel_rfl) (by kernel_rfl) (by kernel_rfl) (fun _ _ _ h => h) (Or.inl ⟨by kernel_rfl, by intro w hSw; obtain ⟨s0, s1, s2, s3, s4, s5⟩ := hSw; go_simp⟩) hHeld ?_
          refine wpAnyH_take (i := 8) (v := .bool false) rfl (by kernel_rfl) (by kernel_rfl) (by kernel_rfl) (fun _ _ _ h => h) (Or.inl ⟨by kernel_rfl, fun w _ => by go_simp⟩) hHeld ?_
          refine wpAnyH_take (i := 9) (v := .bool false) rfl (by kernel_rfl) (by kernel_rfl) (by kernel_rfl) (fun _ _ _ h => h) (Or.inl ⟨by kernel_rfl, fun w _ => by kernel_rfl⟩) hHeld ?_
          refine wpAnyH_take (i := 10) (v := .slice av1 N1 cv1) rfl (by kernel_rfl) (by kernel_rfl) (by kernel_rfl) (fun _ _ _ h => h) (Or.inl ⟨by kernel_rfl, fun w _ => by kernel_rfl⟩) hHeld ?_
          refine wpAnyH_take (i := 11) (v := .int .i64 N1) rfl (by kernel_rfl) (by kernel_rfl) (by kernel_rfl) (fun _ _ _ h => h) (Or.inl ⟨by kernel_rfl, fun w _ => by go_simp⟩) hHeld ?_
          refine wpAnyH_take (i := 12) (v := .slice av2 N1 cv2) rfl (by kernel_rfl) (by kernel_rfl) (by kernel_rfl) (fun _ _ _ h => h) (Or.inl ⟨by kernel_rfl, fun w _ => by kernel_rfl⟩) hHeld ?_
          refine wpAnyH_take (i := 13) (v := .int .i64 N1) rfl (by kernel_rfl) (by kernel_rfl) (by kernel_rfl) (fun _ _ _ h => h) (Or.inl ⟨by kernel_rfl, fun w _ => by go_simp⟩) hHeld ?_
          refine wpAnyH_take (i := 14) (v := .bool false) rfl (by kernel_rfl) (by kernel_rfl) (by kernel_rfl) (fun _ _ _ h => h) (Or.inl ⟨by kernel_rfl, fun w _ => by go_simp⟩) hHeld ?_
          refine wpAnyH_take (i := 15) (v := .bool false) rfl (by kernel_rfl) (by kernel_rfl) (by kernel_rfl) (fun _ _ _ h => h) (Or.inl ⟨by kernel_rfl, fun w _ => by go_simp⟩) hHeld ?_
          refine wpAnyH_take (i := 16) (v := .bool false) rfl (by kernel_rfl) (by kernel_rfl) (by kernel_rfl) (fun _ _ _ h => h) (Or.inl ⟨by kernel_rfl, fun w _ => by kernel_rfl⟩) hHeld ?_
          refine wpAnyH_take (i := 17) (v := .pointer (some ⟨q1, 0, none⟩)) rfl (by kernel_rfl) (by kernel_rfl) (by kernel_rfl) (fun _ _ _ h => h) (Or.inl ⟨by kernel_rfl, fun w _ => by kernel_rfl⟩) hHeld ?_
          refine wpAnyH_take (i := 18) (v := .pointer (some ⟨q1, 0, none⟩)) rfl (by kernel_rfl) (by kernel_rfl) (by kernel_rfl) (fun _ _ _ h => h) (Or.inl ⟨by kernel_rfl, fun w _ => by kernel_rfl⟩) hHeld ?_
          refine wpAnyH_take (i := 19) (v := .pointer (some ⟨q1, 2, none⟩)) rfl (by kernel_rfl) (by kernel_rfl) (by kernel_rfl) (fun _ _ _ h => h) (Or.inl ⟨by kernel_rfl, fun w _ => by kernel_rfl⟩) hHeld ?_
          refine wpAnyH_take (i := 20) (v := .pointer (some ⟨a1, 0, none⟩)) rfl (by kernel_rfl) (by kernel_rfl) (by kernel_rfl) (fun _ _ _ h => h) (Or.inl ⟨by kernel_rfl, by intro w hSw; obtain ⟨s0, s1, s2, s3, s4, s5⟩ := hSw; go_simp⟩) hHeld ?_
          refine wpAnyH_take (i := 21) (v := .pointer (some ⟨q2, 0, none⟩)) rfl (by kernel_rfl) (by kernel_rfl) (by kernel_rfl) (fun _ _ _ h => h) (Or.inl ⟨by kernel_rfl, fun w _ => by kernel_rfl⟩) hHeld ?_
          refine wpAnyH_take (i := 22) (v := .pointer (some ⟨q2, 0, none⟩)) rfl (by kernel_rfl) (by kernel_rfl) (by kernel_rfl) (fun _ _ _ h => h) (Or.inl ⟨by kernel_rfl, fun w _ => by kernel_rfl⟩) hHeld ?_
          refine wpAnyH_take (i := 23) (v := .pointer (some ⟨q2, 2, none⟩)) rfl (by kernel_rfl) (by kernel_rfl) (by kernel_rfl) (fun _ _ _ h => h) (Or.inl ⟨by kernel_rfl, fun w _ => by kernel_rfl⟩) hHeld ?_
          refine wpAnyH_take (i := 24) (v := .pointer (some ⟨a2, 0, none⟩)) rfl (by kernel_rfl) (by kernel_rfl) (by kernel_rfl) (fun _ _ _ h => h) (Or.inl ⟨by kernel_rfl, by intro w hSw; obtain ⟨s0, s1, s2, s3, s4, s5⟩ := hSw; go_simp⟩) hHeld ?_
          refine wpAnyH_ready (rs := [25]) (by kernel_rfl) (by simp) ?_
          refine AllReadyH.cons rfl (fun K hK => ?_) AllReadyH.nil
          go_simp
          refine (HS.out _ K0.out).mono ?_
          rintro e z1 ⟨rfl, hk⟩
          have K1 := hid (K0.out.trans hk)
          have L1 := hid (L1.out.keep hk)
          have L2 := hid (L2.out.keep hk)
          clear hk
          go_simp
          refine hK.out _ _ (HST.out _ K1.out) (fun hHeld => ?_)
          refine wpAnyH_take (i := 26) (v := .bool false) rfl (by kernel_rfl) (by kernel_rfl) (by kernel_rfl) (fun _ _ _ h => h) (Or.inl ⟨by kernel_rfl, fun w _ => by go_simp⟩) hHeld ?_
          refine wpAnyH_take (i := 27) (v := .bool false) rfl (by kernel_rfl) (by kernel_rfl) (by kernel_rfl) (fun _ _ _ h => h) (Or.inl ⟨by kernel_rfl, fun w _ => by go_simp⟩) hHeld ?_
          refine wpAnyH_take (i := 28) (v := .bool false) rfl (by kernel_rfl) (by kernel_rfl) (by kernel_rfl) (fun _ _ _ h => h) (Or.inl ⟨by kernel_rfl, fun w _ => by kernel_rfl⟩) hHeld ?_
          refine wpAnyH_take (i := 29) (v := .pointer (some ⟨q1, 0, none⟩)) rfl (by kernel_rfl) (by kernel_rfl) (by kernel_rfl) (fun _ _ _ h => h) (Or.inl ⟨by kernel_rfl, fun w _ => by kernel_rfl⟩) hHeld ?_
          refine wpAnyH_take (i := 30) (v := .pointer (some ⟨q1, 0, none⟩)) rfl (by kernel_rfl) (by kernel_rfl) (by kernel_rfl) (fun _ _ _ h => h) (Or.inl ⟨by kernel_rfl, fun w _ => by kernel_rfl⟩) hHeld ?_
          refine wpAnyH_take (i := 31) (v := .pointer (some ⟨q1, 3, none⟩)) rfl (by kernel_rfl) (by kernel_rfl) (by kernel_rfl) (fun _ _ _ h => h) (Or.inl ⟨by kernel_rfl, fun w _ => by kernel_rfl⟩) hHeld ?_
          refine wpAnyH_take (i := 32) (v := .pointer (some ⟨b1, 0, none⟩)) rfl (by kernel_rfl) (by kernel_rfl) (by kernel_rfl) (fun _ _ _ h => h) (Or.inl ⟨by kernel_rfl, by intro w hSw; obtain ⟨s0, s1, s2, s3, s4, s5⟩ := hSw; go_simp⟩) hHeld ?_
          refine wpAnyH_take (i := 33) (v := .pointer (some ⟨q2, 0, none⟩)) rfl (by kernel_rfl) (by kernel_rfl) (by kernel_rfl) (fun _ _ _ h => h) (Or.inl ⟨by kernel_rfl, fun w _ => by kernel_rfl⟩) hHeld ?_
          refine wpAnyH_take (i := 34) (v := .pointer (some ⟨q2, 0, none⟩)) rfl (by kernel_rfl) (by kernel_rfl) (by kernel_rfl) (fun _ _ _ h => h) (Or.inl ⟨by kernel_rfl, fun w _ => by kernel_rfl⟩) hHeld ?_
          refine wpAnyH_take (i := 35) (v := .pointer (some ⟨q2, 3, none⟩)) rfl (by kernel_rfl) (by kernel_rfl) (by kernel_rfl) (fun _ _ _ h => h) (Or.inl ⟨by kernel_rfl, fun w _ => by kernel_rfl⟩) hHeld ?_
          refine wpAnyH_take (i := 36) (v := .pointer (some ⟨b2, 0, none⟩)) rfl (by kernel_rfl) (by kernel_rfl) (by kernel_rfl) (fun _ _ _ h => h) (Or.inl ⟨by kernel_rfl, by intro w hSw; obtain ⟨s0, s1, s2, s3, s4, s5⟩ := hSw; go_simp⟩) hHeld ?_
          refine wpAnyH_ready (rs := [37]) (by kernel_rfl) (by simp) ?_
          refine AllReadyH.cons rfl (fun K hK => ?_) AllReadyH.nil
          go_simp
          refine (HR.out _ K1.out).mono ?_
          rintro e z2 ⟨rfl, hk⟩
          have K2 := hid (K1.out.trans hk)
          have L1 := hid (L1.out.keep hk)
          have L2 := hid (L2.out.keep hk)
          clear hk
          go_simp
          refine hK.out _ _ (HST.out _ K2.out) (fun hHeld => ?_)
          refine wpAnyH_take (i := 38) (v := .bool true) rfl (by kernel_rfl) (by kernel_rfl) (by kernel_rfl) (fun _ _ _ h => h) (Or.inl ⟨by kernel_rfl, fun w _ => by go_simp⟩) hHeld ?_
          refine wpAnyH_take (i := 39) (v := .bool true) rfl (by kernel_rfl) (by kernel_rfl) (by kernel_rfl) (fun _ _ _ h => h) (Or.inl ⟨by kernel_rfl, fun w _ => by go_simp⟩) hHeld ?_
          refine wpAnyH_done (by kernel_rfl) ?_ _
          refine hKK _ _ ?_
          refine act_eq (a' := ⟨#[.pointer (some ⟨q1, 0, none⟩), .pointer (some ⟨q2, 0, none⟩), undef, undef, .bool false, .slice av1 N1 cv1, .slice av2 N1 cv2, undef, undef, undef, undef, .pointer (some ⟨q1, 0, none⟩), .bool false, .bool false, .pointer (some ⟨q2, 0, none⟩), .bool false, .bool false, undef, undef, undef, undef, undef, undef, .pointer (some ⟨q1, 0, none⟩), .slice av1 N1 cv1, .pointer (some ⟨q2, 0, none⟩), .slice av2 N1 cv2, .pointer (some ⟨q1, 0, none⟩), .pointer (some ⟨q1, 0, none⟩), .pointer (some ⟨q1, 0, none⟩), .int .i64 X, .pointer (some ⟨q2, 0, none⟩), .pointer (some ⟨q2, 0, none⟩), .pointer (some ⟨q2, 0, none⟩), .int .i64 X, .bool false, .bool false, .slice av1 N1 cv1, .int .i64 N1, .slice av2 N1 cv2, .int .i64 N1, .bool false, .bool false, .bool false, .pointer (some ⟨q1, 0, none⟩), .pointer (some ⟨q1, 0, none⟩), .pointer (some ⟨q1, 2, none⟩), .pointer (some ⟨a1, 0, none⟩), .pointer (some ⟨q2, 0, none⟩), .pointer (some ⟨q2, 0, none⟩), .pointer (some ⟨q2, 2, none⟩), .pointer (some ⟨a2, 0, none⟩), .bool true, .bool false, .bool false, .bool false, .pointer (some ⟨q1, 0, none⟩), .pointer (some ⟨q1, 0, none⟩), .pointer (some ⟨q1, 3, none⟩), .pointer (some ⟨b1, 0, none⟩), .pointer (some ⟨q2, 0, none⟩), .pointer (some ⟨q2, 0, none⟩), .pointer (some ⟨q2, 3, none⟩), .pointer (some ⟨b2, 0, none⟩), .bool false, .bool true, .bool true, undef, undef, undef, undef, undef, undef, undef, undef, undef, undef, undef, undef, undef, undef, undef, undef, undef, undef, undef, undef, undef, undef, undef, undef, undef, undef, undef, undef, undef, undef, undef, undef, undef, undef, undef, undef, undef, undef, undef, undef, undef], []⟩) (by kernel_rfl) ?_
          clear HST HS HR HW HM HF HO1 HO2
          go_wp2
          go_ret
          exact ⟨rfl, K2.out⟩
        | true =>
          rename_i QQ KK hKK
          refine wp_region_held_drew (S := fun W : World => W.cell? ⟨q1, 0, none⟩ = some (.int .i64 X) ∧ W.cell? ⟨q1, 2, none⟩ = some (.pointer (some ⟨a1, 0, none⟩)) ∧ W.cell? ⟨q1, 3, none⟩ = some (.pointer (some ⟨b1, 0, none⟩)) ∧ W.cell? ⟨q2, 0, none⟩ = some (.int .i64 X) ∧ W.cell? ⟨q2, 2, none⟩ = some (.pointer (some ⟨a2, 0, none⟩)) ∧ W.cell? ⟨q2, 3, none⟩ = some (.pointer (some ⟨b2, 0, none⟩))) (by kernel_rfl) (HST.out _ K0.out) (fun hHeld => ?_)
          refine wpAnyH_take (i := 0) (v := .pointer (some ⟨q1, 0, none⟩)) rfl (by kernel_rfl) (by kernel_rfl) (by kernel_rfl) (fun _ _ _ h => h) (Or.inl ⟨by kernel_rfl, fun w _ => by kernel_rfl⟩) hHeld ?_
          refine wpAnyH_take (i := 1) (v := .pointer (some ⟨q1, 0, none⟩)) rfl (by kernel_rfl) (by kernel_rfl) (by kernel_rfl) (fun _ _ _ h => h) (Or.inl ⟨by kernel_rfl, fun w _ => by kernel_rfl⟩) hHeld ?_
          refine wpAnyH_take (i := 2) (v := .pointer (some ⟨q1, 0, none⟩)) rfl (by kernel_rfl) (by kernel_rfl) (by kernel_rfl) (fun _ _ _ h => h) (Or.inl ⟨by kernel_rfl, fun w _ => by kernel_rfl⟩) hHeld ?_
          refine wpAnyH_take (i := 3) (v := .int .i64 X) rfl (by kernel_rfl) (by kernel_rfl) (by kernel_rfl) (fun _ _ _ h => h) (Or.inl ⟨by kernel_rfl, by intro w hSw; obtain ⟨s0, s1, s2, s3, s4, s5⟩ := hSw; go_simp⟩) hHeld ?_
          refine wpAnyH_take (i := 4) (v := .pointer (some ⟨q2, 0, none⟩)) rfl (by kernel_rfl) (by kernel_rfl) (by kernel_rfl) (fun _ _ _ h => h) (Or.inl ⟨by kernel_rfl, fun w _ => by kernel_rfl⟩) hHeld ?_
          refine wpAnyH_take (i := 5) (v := .pointer (some ⟨q2, 0, none⟩)) rfl (by kernel_rfl) (by kernel_rfl) (by kernel_rfl) (fun _ _ _ h => h) (Or.inl ⟨by kernel_rfl, fun w _ => by kernel_rfl⟩) hHeld ?_
          refine wpAnyH_take (i := 6) (v := .pointer (some ⟨q2, 0, none⟩)) rfl (by kernel_rfl) (by kernel_rfl) (by kernel_rfl) (fun _ _ _ h => h) (Or.inl ⟨by kernel_rfl, fun w _ => by kernel_rfl⟩) hHeld ?_
          refine wpAnyH_take (i := 7) (v := .int .i64 X) rfl (by kernel_rfl) (by kernel_rfl) (by kernel_rfl) (fun _ _ _ h => h) (Or.inl ⟨by kernel_rfl, by intro w hSw; obtain ⟨s0, s1, s2, s3, s4, s5⟩ := hSw; go_simp⟩) hHeld ?_
          refine wpAnyH_take (i := 8) (v := .bool false) rfl (by kernel_rfl) (by kernel_rfl) (by kernel_rfl) (fun _ _ _ h => h) (Or.inl ⟨by kernel_rfl, fun w _ => by go_simp⟩) hHeld ?_
          refine wpAnyH_take (i := 9) (v := .bool false) rfl (by kernel_rfl) (by kernel_rfl) (by kernel_rfl) (fun _ _ _ h => h) (Or.inl ⟨by kernel_rfl, fun w _ => by kernel_rfl⟩) hHeld ?_
          refine wpAnyH_take (i := 10) (v := .slice av1 N1 cv1) rfl (by kernel_rfl) (by kernel_rfl) (by kernel_rfl) (fun _ _ _ h => h) (Or.inl ⟨by kernel_rfl, fun w _ => by kernel_rfl⟩) hHeld ?_
          refine wpAnyH_take (i := 11) (v := .int .i64 N1) rfl (by kernel_rfl) (by kernel_rfl) (by kernel_rfl) (fun _ _ _ h => h) (Or.inl ⟨by kernel_rfl, fun w _ => by go_simp⟩) hHeld ?_
          refine wpAnyH_take (i := 12) (v := .slice av2 N1 cv2) rfl (by kernel_rfl) (by kernel_rfl) (by kernel_rfl) (fun _ _ _ h => h) (Or.inl ⟨by kernel_rfl, fun w _ => by kernel_rfl⟩) hHeld ?_
          refine wpAnyH_take (i := 13) (v := .int .i64 N1) rfl (by kernel_rfl) (by kernel_rfl) (by kernel_rfl) (fun _ _ _ h => h) (Or.inl ⟨by kernel_rfl, fun w _ => by go_simp⟩) hHeld ?_
          refine wpAnyH_take (i := 14) (v := .bool false) rfl (by kernel_rfl) (by kernel_rfl) (by kernel_rfl) (fun _ _ _ h => h) (Or.inl ⟨by kernel_rfl, fun w _ => by go_simp⟩) hHeld ?_
          refine wpAnyH_take (i := 15) (v := .bool false) rfl (by kernel_rfl) (by kernel_rfl) (by kernel_rfl) (fun _ _ _ h => h) (Or.inl ⟨by kernel_rfl, fun w _ => by go_simp⟩) hHeld ?_
          refine wpAnyH_take (i := 16) (v := .bool false) rfl (by kernel_rfl) (by kernel_rfl) (by kernel_rfl) (fun _ _ _ h => h) (Or.inl ⟨by kernel_rfl, fun w _ => by kernel_rfl⟩) hHeld ?_
          refine wpAnyH_take (i := 17) (v := .pointer (some ⟨q1, 0, none⟩)) rfl (by kernel_rfl) (by kernel_rfl) (by kernel_rfl) (fun _ _ _ h => h) (Or.inl ⟨by kernel_rfl, fun w _ => by kernel_rfl⟩) hHeld ?_
          refine wpAnyH_take (i := 18) (v := .pointer (some ⟨q1, 0, none⟩)) rfl (by kernel_rfl) (by kernel_rfl) (by kernel_rfl) (fun _ _ _ h => h) (Or.inl ⟨by kernel_rfl, fun w _ => by kernel_rfl⟩) hHeld ?_
          refine wpAnyH_take (i := 19) (v := .pointer (some ⟨q1, 2, none⟩)) rfl (by kernel_rfl) (by kernel_rfl) (by kernel_rfl) (fun _ _ _ h => h) (Or.inl ⟨by kernel_rfl, fun w _ => by kernel_rfl⟩) hHeld ?_
          refine wpAnyH_take (i := 20) (v := .pointer (some ⟨a1, 0, none⟩)) rfl (by kernel_rfl) (by kernel_rfl) (by kernel_rfl) (fun _ _ _ h => h) (Or.inl ⟨by kernel_rfl, by intro w hSw; obtain ⟨s0, s1, s2, s3, s4, s5⟩ := hSw; go_simp⟩) hHeld ?_
          refine wpAnyH_take (i := 21) (v := .pointer (some ⟨q2, 0, none⟩)) rfl (by kernel_rfl) (by kernel_rfl) (by kernel_rfl) (fun _ _ _ h => h) (Or.inl ⟨by kernel_rfl, fun w _ => by kernel_rfl⟩) hHeld ?_
          refine wpAnyH_take (i := 22) (v := .pointer (some ⟨q2, 0, none⟩)) rfl (by kernel_rfl) (by kernel_rfl) (by kernel_rfl) (fun _ _ _ h => h) (Or.inl ⟨by kernel_rfl, fun w _ => by kernel_rfl⟩) hHeld ?_
          refine wpAnyH_take (i := 23) (v := .pointer (some ⟨q2, 2, none⟩)) rfl (by kernel_rfl) (by kernel_rfl) (by kernel_rfl) (fun _ _ _ h => h) (Or.inl ⟨by kernel_rfl, fun w _ => by kernel_rfl⟩) hHeld ?_
          refine wpAnyH_take (i := 24) (v := .pointer (some ⟨a2, 0, none⟩)) rfl (by kernel_rfl) (by kernel_rfl) (by kernel_rfl) (fun _ _ _ h => h) (Or.inl ⟨by kernel_rfl, by intro w hSw; obtain ⟨s0, s1, s2, s3, s4, s5⟩ := hSw; go_simp⟩) hHeld ?_
          refine wpAnyH_ready (rs := [25]) (by kernel_rfl) (by simp) ?_
          refine AllReadyH.cons rfl (fun K hK => ?_) AllReadyH.nil
          go_simp
          refine (HS.out _ K0.out).mono ?_
          rintro e z1 ⟨rfl, hk⟩
          have K1 := hid (K0.out.trans hk)
          have L1 := hid (L1.out.keep hk)
          have L2 := hid (L2.out.keep hk)
          clear hk
          go_simp
          refine hK.out _ _ (HST.out _ K1.out) (fun hHeld => ?_)
          refine wpAnyH_take (i := 26) (v := .bool false) rfl (by kernel_rfl) (by kernel_rfl) (by kernel_rfl) (fun _ _ _ h => h) (Or.inl ⟨by kernel_rfl, fun w _ => by go_simp⟩) hHeld ?_
          refine wpAnyH_take (i := 27) (v := .bool false) rfl (by kernel_rfl) (by kernel_rfl) (by kernel_rfl) (fun _ _ _ h => h) (Or.inl ⟨by kernel_rfl, fun w _ => by go_simp⟩) hHeld ?_
          refine wpAnyH_take (i := 28) (v := .bool false) rfl (by kernel_rfl) (by kernel_rfl) (by kernel_rfl) (fun _ _ _ h => h) (Or.inl ⟨by kernel_rfl, fun w _ => by kernel_rfl⟩) hHeld ?_
          refine wpAnyH_take (i := 29) (v := .pointer (some ⟨q1, 0, none⟩)) rfl (by kernel_rfl) (by kernel_rfl) (by kernel_rfl) (fun _ _ _ h => h) (Or.inl ⟨by kernel_rfl, fun w _ => by kernel_rfl⟩) hHeld ?_
          refine wpAnyH_take (i := 30) (v := .pointer (some ⟨q1, 0, none⟩)) rfl (by kernel_rfl) (by kernel_rfl) (by kernel_rfl) (fun _ _ _ h => h) (Or.inl ⟨by kernel_rfl, fun w _ => by kernel_rfl⟩) hHeld ?_
          refine wpAnyH_take (i := 31) (v := .pointer (some ⟨q1, 3, none⟩)) rfl (by kernel_rfl) (by kernel_rfl) (by kernel_rfl) (fun _ _ _ h => h) (Or.inl ⟨by kernel_rfl, fun w _ => by kernel_rfl⟩) hHeld ?_
          refine wpAnyH_take (i := 32) (v := .pointer (some ⟨b1, 0, none⟩)) rfl (by kernel_rfl) (by kernel_rfl) (by kernel_rfl) (fun _ _ _ h => h) (Or.inl ⟨by kernel_rfl, by intro w hSw; obtain ⟨s0, s1, s2, s3, s4, s5⟩ := hSw; go_simp⟩) hHeld ?_
          refine wpAnyH_take (i := 33) (v := .pointer (some ⟨q2, 0, none⟩)) rfl (by kernel_rfl) (by kernel_rfl) (by kernel_rfl) (fun _ _ _ h => h) (Or.inl ⟨by kernel_rfl, fun w _ => by kernel_rfl⟩) hHeld ?_
          refine wpAnyH_take (i := 34) (v := .pointer (some ⟨q2, 0, none⟩)) rfl (by kernel_rfl) (by kernel_rfl) (by kernel_rfl) (fun _ _ _ h => h) (Or.inl ⟨by kernel_rfl, fun w _ => by kernel_rfl⟩) hHeld ?_
          refine wpAnyH_take (i := 35) (v := .pointer (some ⟨q2, 3, none⟩)) rfl (by kernel_rfl) (by kernel_rfl) (by kernel_rfl) (fun _ _ _ h => h) (Or.inl ⟨by kernel_rfl, fun w _ => by kernel_rfl⟩) hHeld ?_
          refine wpAnyH_take (i := 36) (v := .pointer (some ⟨b2, 0, none⟩)) rfl (by kernel_rfl) (by kernel_rfl) (by kernel_rfl) (fun _ _ _ h => h) (Or.inl ⟨by kernel_rfl, by intro w hSw; obtain ⟨s0, s1, s2, s3, s4, s5⟩ := hSw; go_simp⟩) hHeld ?_
          refine wpAnyH_ready (rs := [37]) (by kernel_rfl) (by simp) ?_
          refine AllReadyH.cons rfl (fun K hK => ?_) AllReadyH.nil
          go_simp
          refine (HR.out _ K1.out).mono ?_
          rintro e z2 ⟨rfl, hk⟩
          have K2 := hid (K1.out.trans hk)
          have L1 := hid (L1.out.keep hk)
          have L2 := hid (L2.out.keep hk)
          clear hk
          go_simp
          refine hK.out _ _ (HST.out _ K2.out) (fun hHeld => ?_)
          refine wpAnyH_take (i := 38) (v := .bool false) rfl (by kernel_rfl) (by kernel_rfl) (by kernel_rfl) (fun _ _ _ h => h) (Or.inl ⟨by kernel_rfl, fun w _ => by go_simp⟩) hHeld ?_
          refine wpAnyH_take (i := 39) (v := .bool false) rfl (by kernel_rfl) (by kernel_rfl) (by kernel_rfl) (fun _ _ _ h => h) (Or.inl ⟨by kernel_rfl, fun w _ => by go_simp⟩) hHeld ?_
          refine wpAnyH_done (by kernel_rfl) ?_ _
          refine hKK _ _ ?_
          refine act_eq (a' := ⟨#[.pointer (some ⟨q1, 0, none⟩), .pointer (some ⟨q2, 0, none⟩), undef, undef, .bool false, .slice av1 N1 cv1, .slice av2 N1 cv2, undef, undef, undef, undef, .pointer (some ⟨q1, 0, none⟩), .bool false, .bool false, .pointer (some ⟨q2, 0, none⟩), .bool false, .bool false, undef, undef, undef, undef, undef, undef, .pointer (some ⟨q1, 0, none⟩), .slice av1 N1 cv1, .pointer (some ⟨q2, 0, none⟩), .slice av2 N1 cv2, .pointer (some ⟨q1, 0, none⟩), .pointer (some ⟨q1, 0, none⟩), .pointer (some ⟨q1, 0, none⟩), .int .i64 X, .pointer (some ⟨q2, 0, none⟩), .pointer (some ⟨q2, 0, none⟩), .pointer (some ⟨q2, 0, none⟩), .int .i64 X, .bool false, .bool false, .slice av1 N1 cv1, .int .i64 N1, .slice av2 N1 cv2, .int .i64 N1, .bool false, .bool false, .bool false, .pointer (some ⟨q1, 0, none⟩), .pointer (some ⟨q1, 0, none⟩), .pointer (some ⟨q1, 2, none⟩), .pointer (some ⟨a1, 0, none⟩), .pointer (some ⟨q2, 0, none⟩), .pointer (some ⟨q2, 0, none⟩), .pointer (some ⟨q2, 2, none⟩), .pointer (some ⟨a2, 0, none⟩), .bool true, .bool false, .bool false, .bool false, .pointer (some ⟨q1, 0, none⟩), .pointer (some ⟨q1, 0, none⟩), .pointer (some ⟨q1, 3, none⟩), .pointer (some ⟨b1, 0, none⟩), .pointer (some ⟨q2, 0, none⟩), .pointer (some ⟨q2, 0, none⟩), .pointer (some ⟨q2, 3, none⟩), .pointer (some ⟨b2, 0, none⟩), .bool true, .bool false, .bool false, undef, undef, undef, undef, undef, undef, undef, undef, undef, undef, undef, undef, undef, undef, undef, undef, undef, undef, undef, undef, undef, undef, undef, undef, undef, undef, undef, undef, undef, undef, undef, undef, undef, undef, undef, undef, undef, undef, undef, undef, undef], []⟩) (by kernel_rfl) ?_
          have HLE := hid h32
          clear HST HS HR HO1 HO2 hn1 hb
          go_wp2_with fail
          obtain ⟨wz, hwz⟩ : ∃ wz, z2 = wz := ⟨_, rfl⟩
          have HKW := hid (Kp.refl z2 [])
          go_loopw [7] (fun vi wr => ∃ k : Nat, k ≤ N1 ∧ vi = .int .i64 k ∧ Hid (M.L.take k = M'.L.take k ∧ Kp z2 wr [])) (fun vi _ => N1 - (intOf vi).toNat)
          case atStart => exact ⟨0, by omega, rfl, hid ⟨by simp, Kp.refl _ _⟩⟩
          case round =>
            obtain ⟨k, hk, rfl, hR⟩ := hrel
            by_cases hlt : k < N1
            · have hltI : (k : Int) < N1 := by omega
              have hk1 : k < M.L.length := by have := HN.out; omega
              have hk2 : k < M'.L.length := by have := HN.out; omega
              have hx0 := List.getElem?_eq_getElem hk1
              have hy0 := List.getElem?_eq_getElem hk2
              obtain ⟨x1, x2, hx⟩ : ∃ x1 x2, M.L[k] = (x1, x2) := ⟨M.L[k].1, M.L[k].2, rfl⟩
              obtain ⟨y1, y2, hy⟩ : ∃ y1 y2, M'.L[k] = (y1, y2) := ⟨M'.L[k].1, M'.L[k].2, rfl⟩
              rw [hx] at hx0
              rw [hy] at hy0
              obtain ⟨g3, rfl, d1, d2⟩ := (L1.out.keep hR.out.2).at hx0
              obtain ⟨g4, rfl, e1, e2⟩ := (L2.out.keep hR.out.2).at hy0
              have HX0 := hid (And.intro hx0 hy0)
              have hnq := neq34 x1 x2 y1 y2
              clear hx hy hk1 hk2 hx0 hy0
              by_cases hq : (x1, x2) = (y1, y2)
              · have hqq : (x1 == y1 && x2 == y2) = true := by simp at hq; simp [hq]
                rw [hqq] at hnq
                have R2 := hid (show ∀ m, M.L.take (k + 1) = M'.L.take (k + 1) ∧ Kp z2 (wr.drewN m) [] by
                  intro m
                  rw [take_nx HX0.out.1, take_nx HX0.out.2, hR.out.1, hq]
                  exact ⟨rfl, hR.out.2.trans (Kp.drewN _ _ _)⟩)
                clear hq hqq hR
                go_wp2_with fail
                go_quiet (fail)
                go_wp2
                go_roundw
                case rel => exact ⟨k + 1, by omega, by simp, hid (R2.out _)⟩
                case measure => simp [intOf]; omega
              · have hqq : (x1 == y1 && x2 == y2) = false := by
                  rw [Bool.eq_false_iff]
                  intro h
                  simp at h
                  exact hq (by rw [h.1, h.2])
                rw [hqq] at hnq
                have hBf : B = false := by
                  rw [HBN.out]
                  have : M.L ≠ M'.L := fun e => by
                    have h1 := HX0.out.1
                    rw [e, HX0.out.2] at h1
                    exact hq (Option.some.inj h1).symm
                  simp [this]
                subst hBf
                have R2 := hid hR.out.2
                clear hq hqq hR
                go_wp2_with fail
                go_quiet (fail)
                go_wp2
                go_ret
                exact ⟨rfl, K2.out.trans (R2.out.trans (Kp.drewN _ _ _))⟩
            · have hltI : ¬ (k : Int) < N1 := by omega
              have hLL : M.L = M'.L := by
                have h1 := hR.out.1
                rw [List.take_of_length_le (by have := HN.out; omega), List.take_of_length_le (by have := HN.out; omega)] at h1
                exact h1
              have HLL := hid hLL
              have R2 := hid (K2.out.trans hR.out.2)
              clear hR hLL hlt
              have ⟨k0, hk0⟩ : ∃ k0, k0 = k := ⟨k, rfl⟩
              subst hk0
              go_wp2_with fail
              go_loopw [8] (fun vi wq => ∃ k : Nat, k ≤ 16 ∧ vi = .int .i64 k ∧ Hid ((∀ u, u < k → hasP M.s (u : Int) = true → g1 u = g2 u) ∧ Kp w wq [])) (fun vi _ => 16 - (intOf vi).toNat)
              case atStart => exact ⟨0, by omega, rfl, hid ⟨fun u hu => by omega, R2.out⟩⟩
              case round =>
                obtain ⟨k, hk, rfl, hR⟩ := hrel
                by_cases hlt : k < 16
                · have hltI : (k : Int) < 16 := by omega
                  have hWS := hid (HW.out _ hR.out.2 (k : Int))
                  cases hs : hasP M.s (k : Int) with
                  | false =>
                    have R3 := hid (show (∀ u, u < k + 1 → hasP M.s (u : Int) = true → g1 u = g2 u) ∧ Kp w wr [] from ⟨fun u hu hp => by
                      by_cases e : u = k
                      · rw [e, hs] at hp
                        cases hp
                      · exact hR.out.1 u (by omega) hp, hR.out.2⟩)
                    rw [show wSend M (k : Int) = false from hs] at hWS
                    generalize wAny M (k : Int) = A at hWS
                    clear hR hs
                    go_wp2_with fail
                    refine hWS.out.mono ?_
                    rintro e w5 ⟨rfl, hw⟩; obtain rfl := hw.symm
                    go_wp2_with fail
                    rename_i QQ KK hKK
                    refine wp_region_held_drew (S := fun _ : World => True) (by kernel_rfl) trivial (fun hHeld => ?_)
                    refine wpAnyH_take (i := 0) (v := .bool false) rfl (by kernel_rfl) (by kernel_rfl) (by kernel_rfl) (fun _ _ _ h => h) (Or.inl ⟨by kernel_rfl, fun w _ => by kernel_rfl⟩) hHeld ?_
                    refine wpAnyH_take (i := 1) (v := .bool false) rfl (by kernel_rfl) (by kernel_rfl) (by kernel_rfl) (fun _ _ _ h => h) (Or.inl ⟨by kernel_rfl, fun w _ => by kernel_rfl⟩) hHeld ?_
                    refine wpAnyH_take (i := 2) (v := undef) rfl (by kernel_rfl) (by kernel_rfl) (by kernel_rfl) (fun _ _ _ h => h) (Or.inr ⟨by kernel_rfl, rfl⟩) hHeld ?_
                    refine wpAnyH_take (i := 3) (v := undef) rfl (by kernel_rfl) (by kernel_rfl) (by kernel_rfl) (fun _ _ _ h => h) (Or.inr ⟨by kernel_rfl, rfl⟩) hHeld ?_
                    refine wpAnyH_take (i := 4) (v := undef) rfl (by kernel_rfl) (by kernel_rfl) (by kernel_rfl) (fun _ _ _ h => h) (Or.inr ⟨by kernel_rfl, rfl⟩) hHeld ?_
                    refine wpAnyH_take (i := 5) (v := undef) rfl (by kernel_rfl) (by kernel_rfl) (by kernel_rfl) (fun _ _ _ h => h) (Or.inr ⟨by kernel_rfl, rfl⟩) hHeld ?_
                    refine wpAnyH_take (i := 6) (v := undef) rfl (by kernel_rfl) (by kernel_rfl) (by kernel_rfl) (fun _ _ _ h => h) (Or.inr ⟨by kernel_rfl, rfl⟩) hHeld ?_
                    refine wpAnyH_take (i := 7) (v := undef) rfl (by kernel_rfl) (by kernel_rfl) (by kernel_rfl) (fun _ _ _ h => h) (Or.inr ⟨by kernel_rfl, rfl⟩) hHeld ?_
                    refine wpAnyH_take (i := 8) (v := undef) rfl (by kernel_rfl) (by kernel_rfl) (by kernel_rfl) (fun _ _ _ h => h) (Or.inr ⟨by kernel_rfl, rfl⟩) hHeld ?_
                    refine wpAnyH_take (i := 9) (v := undef) rfl (by kernel_rfl) (by kernel_rfl) (by kernel_rfl) (fun _ _ _ h => h) (Or.inr ⟨by kernel_rfl, rfl⟩) hHeld ?_
                    refine wpAnyH_take (i := 10) (v := undef) rfl (by kernel_rfl) (by kernel_rfl) (by kernel_rfl) (fun _ _ _ h => h) (Or.inr ⟨by kernel_rfl, rfl⟩) hHeld ?_
                    refine wpAnyH_take (i := 11) (v := undef) rfl (by kernel_rfl) (by kernel_rfl) (by kernel_rfl) (fun _ _ _ h => h) (Or.inr ⟨by kernel_rfl, rfl⟩) hHeld ?_
                    refine wpAnyH_take (i := 12) (v := undef) rfl (by kernel_rfl) (by kernel_rfl) (by kernel_rfl) (fun _ _ _ h => h) (Or.inr ⟨by kernel_rfl, rfl⟩) hHeld ?_
                    refine wpAnyH_take (i := 13) (v := undef) rfl (by kernel_rfl) (by kernel_rfl) (by kernel_rfl) (fun _ _ _ h => h) (Or.inr ⟨by kernel_rfl, rfl⟩) hHeld ?_
                    refine wpAnyH_take (i := 14) (v := undef) rfl (by kernel_rfl) (by kernel_rfl) (by kernel_rfl) (fun _ _ _ h => h) (Or.inr ⟨by kernel_rfl, rfl⟩) hHeld ?_
                    refine wpAnyH_take (i := 15) (v := .bool false) rfl (by kernel_rfl) (by kernel_rfl) (by kernel_rfl) (fun _ _ _ h => h) (Or.inl ⟨by kernel_rfl, fun w _ => by kernel_rfl⟩) hHeld ?_
                    refine wpAnyH_done (by kernel_rfl) ?_ _
                    refine hKK _ _ ?_
                    refine act_eq (a' := ⟨#[.pointer (some ⟨q1, 0, none⟩), .pointer (some ⟨q2, 0, none⟩), undef, undef, u4, .slice av1 N1 cv1, .slice av2 N1 cv2, .int .i64 k0, .int .i64 k, .bool false, .bool A, .pointer (some ⟨q1, 0, none⟩), .bool false, .bool false, .pointer (some ⟨q2, 0, none⟩), .bool false, .bool false, undef, undef, undef, undef, undef, undef, .pointer (some ⟨q1, 0, none⟩), .slice av1 N1 cv1, .pointer (some ⟨q2, 0, none⟩), .slice av2 N1 cv2, .pointer (some ⟨q1, 0, none⟩), .pointer (some ⟨q1, 0, none⟩), .pointer (some ⟨q1, 0, none⟩), .int .i64 X, .pointer (some ⟨q2, 0, none⟩), .pointer (some ⟨q2, 0, none⟩), .pointer (some ⟨q2, 0, none⟩), .int .i64 X, .bool false, .bool false, .slice av1 N1 cv1, .int .i64 N1, .slice av2 N1 cv2, .int .i64 N1, .bool false, .bool false, .bool false, .pointer (some ⟨q1, 0, none⟩), .pointer (some ⟨q1, 0, none⟩), .pointer (some ⟨q1, 2, none⟩), .pointer (some ⟨a1, 0, none⟩), .pointer (some ⟨q2, 0, none⟩), .pointer (some ⟨q2, 0, none⟩), .pointer (some ⟨q2, 2, none⟩), .pointer (some ⟨a2, 0, none⟩), .bool true, .bool false, .bool false, .bool false, .pointer (some ⟨q1, 0, none⟩), .pointer (some ⟨q1, 0, none⟩), .pointer (some ⟨q1, 3, none⟩), .pointer (some ⟨b1, 0, none⟩), .pointer (some ⟨q2, 0, none⟩), .pointer (some ⟨q2, 0, none⟩), .pointer (some ⟨q2, 3, none⟩), .pointer (some ⟨b2, 0, none⟩), .bool true, .bool false, .bool false, .int .i64 k0, .slice av1 N1 cv1, .int .i64 N1, .bool false, u71, u72, u73, u74, u75, u76, u77, u78, u79, u80, u81, .int .i64 k, .bool true, u84, u85, .tuple #[.bool false, .bool A], .pointer (some ⟨q1, 0, none⟩), .int .i64 k, .tuple #[.bool false, .bool A], .bool false, .bool A, .bool false, .bool false, undef, undef, undef, undef, undef, undef, undef, undef, undef, undef, undef, undef, undef, .bool false], []⟩) (by kernel_rfl) ?_
                    go_wp2
                    go_roundw
                    case rel => exact ⟨k + 1, by omega, by simp, hid ⟨R3.out.1, R3.out.2.trans (Kp.drew _ _)⟩⟩
                    case measure => simp [intOf]; omega
                  | true =>
                    rw [show wSend M (k : Int) = true from hs] at hWS
                    generalize wAny M (k : Int) = A at hWS
                    have hSS : M.s = M'.s := of_decide_eq_true HXY.out.2.2.1
                    have hff := HF.out k hlt
                    rw [← hSS, hs, if_pos rfl, if_pos rfl] at hff
                    have HFF := hid hff
                    have HM2 := hid (show ∀ W, Kp w W [] → _ from fun W hk => HM.out W hk k hlt)
                    have hkI : (k : Int) < 16 := hltI
                    have hk16 : k < 16 := hlt
                    obtain ⟨x1, x2, hx⟩ : ∃ x1 x2, g1 k = (x1, x2) := ⟨_, _, rfl⟩
                    obtain ⟨y1, y2, hy⟩ : ∃ y1 y2, g2 k = (y1, y2) := ⟨_, _, rfl⟩
                    rw [hx, hy] at HM2 HFF
                    have HXX := hid (And.intro hx hy)
                    have hnq := neq34 x1 x2 y1 y2
                    clear hx hy hff hSS
                    have hSW := HM2.out wr.drew (hR.out.2.trans (Kp.drew _ _))
                    obtain ⟨⟨m0, m1⟩, m2, m3⟩ := HM2.out wr hR.out.2
                    by_cases hq : (x1, x2) = (y1, y2)
                    · have hqq : (x1 == y1 && x2 == y2) = true := by simp at hq; simp [hq]
                      rw [hqq] at hnq
                      have R3 := hid (show (∀ u, u < k + 1 → hasP M.s (u : Int) = true → g1 u = g2 u) ∧ Kp w wr.drew [] from ⟨fun u hu hp => by
                        by_cases e : u = k
                        · rw [e, HXX.out.1, HXX.out.2, hq]
                        · exact hR.out.1 u (by omega) hp, hR.out.2.trans (Kp.drew _ _)⟩)
                      clear hR hs hq hqq
                      go_wp2_with fail
                      refine hWS.out.mono ?_
                      rintro e w5 ⟨rfl, hw⟩; obtain rfl := hw.symm
                      go_wp2_with fail
                      go_region_held_law (fun W => (W.cell? ⟨q1, 4 + k * 2, none⟩ = some (.int .i64 x1) ∧ W.cell? ⟨q1, 4 + k * 2 + 1, none⟩ = some (.int .i64 x2)) ∧ W.cell? ⟨q2, 4 + k * 2, none⟩ = some (.int .i64 y1) ∧ W.cell? ⟨q2, 4 + k * 2 + 1, none⟩ = some (.int .i64 y2)) (exact hSW) (fail)
                      go_wp2
                      go_roundw
                      case rel => exact ⟨k + 1, by omega, by simp, R3⟩
                      case measure => simp [intOf]; omega
                    · have hqq : (x1 == y1 && x2 == y2) = false := by
                        rw [Bool.eq_false_iff]
                        intro h
                        simp at h
                        exact hq (by rw [h.1, h.2])
                      rw [hqq] at hnq
                      have hBf : B = false := by
                        rw [HBN.out]
                        have : eqF M.f M'.f = false := by
                          rw [Bool.eq_false_iff]
                          intro h
                          have := eqF_iff.1 h k hk16
                          rw [HFF.out.1, HFF.out.2] at this
                          exact hq (Option.some.inj this)
                        simp [this]
                      subst hBf
                      have R3 := hid (hR.out.2.trans (Kp.drew _ _))
                      clear hR hs hq hqq
                      go_wp2_with fail
                      refine hWS.out.mono ?_
                      rintro e w5 ⟨rfl, hw⟩; obtain rfl := hw.symm
                      go_wp2_with fail
                      go_region_held_law (fun W => (W.cell? ⟨q1, 4 + k * 2, none⟩ = some (.int .i64 x1) ∧ W.cell? ⟨q1, 4 + k * 2 + 1, none⟩ = some (.int .i64 x2)) ∧ W.cell? ⟨q2, 4 + k * 2, none⟩ = some (.int .i64 y1) ∧ W.cell? ⟨q2, 4 + k * 2 + 1, none⟩ = some (.int .i64 y2)) (exact hSW) (fail)
                      go_wp2
                      go_ret
                      exact ⟨rfl, R3.out⟩
                · have hltI : ¬ (k : Int) < 16 := by omega
                  have hBt : B = true := by
                    rw [HBN.out]
                    have hSS : M.s = M'.s := of_decide_eq_true HXY.out.2.2.1
                    have : eqF M.f M'.f = true := eqF_iff.2 fun t ht => by
                      have hff := HF.out t ht
                      rw [← hSS] at hff
                      rw [hff.1, hff.2]
                      split
                      · rename_i hp
                        rw [hR.out.1 t (by omega) hp]
                      · rfl
                    simp [this, HLL.out]
                  subst hBt
                  have R3 := hid hR.out.2
                  clear hR
                  go_wp2
                  go_ret
                  exact ⟨rfl, R3.out⟩
    · have hn1 : ((N1 : Int) != N2) = true := by simp; omega
      have hne : M.L ≠ M'.L := fun e => hn (by rw [← HN.out.1, ← HN.out.2, e])
      have hBf : B = false := by rw [HBN.out]; simp [hne]
      subst hBf
      rename_i QQ KK hKK
      refine wp_region_held_drew (S := fun W : World => W.cell? ⟨q1, 0, none⟩ = some (.int .i64 X) ∧ W.cell? ⟨q1, 2, none⟩ = some (.pointer (some ⟨a1, 0, none⟩)) ∧ W.cell? ⟨q1, 3, none⟩ = some (.pointer (some ⟨b1, 0, none⟩)) ∧ W.cell? ⟨q2, 0, none⟩ = some (.int .i64 X) ∧ W.cell? ⟨q2, 2, none⟩ = some (.pointer (some ⟨a2, 0, none⟩)) ∧ W.cell? ⟨q2, 3, none⟩ = some (.pointer (some ⟨b2, 0, none⟩))) (by kernel_rfl) (HST.out _ K0.out) (fun hHeld => ?_)
      refine wpAnyH_take (i := 0) (v := .pointer (some ⟨q1, 0, none⟩)) rfl (by kernel_rfl) (by kernel_rfl) (by kernel_rfl) (fun _ _ _ h => h) (Or.inl ⟨by kernel_rfl, fun w _ => by kernel_rfl⟩) hHeld ?_
      refine wpAnyH_take (i := 1) (v := .pointer (some ⟨q1, 0, none⟩)) rfl (by kernel_rfl) (by kernel_rfl) (by kernel_rfl) (fun _ _ _ h => h) (Or.inl ⟨by kernel_rfl, fun w _ => by kernel_rfl⟩) hHeld ?_
      refine wpAnyH_take (i := 2) (v := .pointer (some ⟨q1, 0, none⟩)) rfl (by kernel_rfl) (by kernel_rfl) (by kernel_rfl) (fun _ _ _ h => h) (Or.inl ⟨by kernel_rfl, fun w _ => by kernel_rfl⟩) hHeld ?_
      refine wpAnyH_take (i := 3) (v := .int .i64 X) rfl (by kernel_rfl) (by kernel_rfl) (by kernel_rfl) (fun _ _ _ h => h) (Or.inl ⟨by kernel_rfl, by intro w hSw; obtain ⟨s0, s1, s2, s3, s4, s5⟩ := hSw; go_simp⟩) hHeld ?_
      refine wpAnyH_take (i := 4) (v := .pointer (some ⟨q2, 0, none⟩)) rfl (by kernel_rfl) (by kernel_rfl) (by kernel_rfl) (fun _ _ _ h => h) (Or.inl ⟨by kernel_rfl, fun w _ => by kernel_rfl⟩) hHeld ?_
      refine wpAnyH_take (i := 5) (v := .pointer (some ⟨q2, 0, none⟩)) rfl (by kernel_rfl) (by kernel_rfl) (by kernel_rfl) (fun _ _ _ h => h) (Or.inl ⟨by kernel_rfl, fun w _ => by kernel_rfl⟩) hHeld ?_
      refine wpAnyH_take (i := 6) (v := .pointer (some ⟨q2, 0, none⟩)) rfl (by kernel_rfl) (by kernel_rfl) (by kernel_rfl) (fun _ _ _ h => h) (Or.inl ⟨by kernel_rfl, fun w _ => by kernel_rfl⟩) hHeld ?_
      refine wpAnyH_take (i := 7) (v := .int .i64 X) rfl (by kernel_rfl) (by kernel_rfl) (by kernel_rfl) (fun _ _ _ h => h) (Or.inl ⟨by kernel_rfl, by intro w hSw; obtain ⟨s0, s1, s2, s3, s4, s5⟩ := hSw; go_simp⟩) hHeld ?_
      refine wpAnyH_take (i := 8) (v := .bool false) rfl (by kernel_rfl) (by kernel_rfl) (by kernel_rfl) (fun _ _ _ h => h) (Or.inl ⟨by kernel_rfl, fun w _ => by go_simp⟩) hHeld ?_
      refine wpAnyH_take (i := 9) (v := .bool false) rfl (by kernel_rfl) (by kernel_rfl) (by kernel_rfl) (fun _ _ _ h => h) (Or.inl ⟨by kernel_rfl, fun w _ => by kernel_rfl⟩) hHeld ?_
      refine wpAnyH_take (i := 10) (v := .slice av1 N1 cv1) rfl (by kernel_rfl) (by kernel_rfl) (by kernel_rfl) (fun _ _ _ h => h) (Or.inl ⟨by kernel_rfl, fun w _ => by kernel_rfl⟩) hHeld ?_
      refine wpAnyH_take (i := 11) (v := .int .i64 N1) rfl (by kernel_rfl) (by kernel_rfl) (by kernel_rfl) (fun _ _ _ h => h) (Or.inl ⟨by kernel_rfl, fun w _ => by go_simp⟩) hHeld ?_
      refine wpAnyH_take (i := 12) (v := .slice av2 N2 cv2) rfl (by kernel_rfl) (by kernel_rfl) (by kernel_rfl) (fun _ _ _ h => h) (Or.inl ⟨by kernel_rfl, fun w _ => by kernel_rfl⟩) hHeld ?_
      refine wpAnyH_take (i := 13) (v := .int .i64 N2) rfl (by kernel_rfl) (by kernel_rfl) (by kernel_rfl) (fun _ _ _ h => h) (Or.inl ⟨by kernel_rfl, fun w _ => by go_simp⟩) hHeld ?_
      refine wpAnyH_take (i := 14) (v := .bool true) rfl (by kernel_rfl) (by kernel_rfl) (by kernel_rfl) (fun _ _ _ h => h) (Or.inl ⟨by kernel_rfl, fun w _ => by go_simp⟩) hHeld ?_
      refine wpAnyH_take (i := 15) (v := .bool true) rfl (by kernel_rfl) (by kernel_rfl) (by kernel_rfl) (fun _ _ _ h => h) (Or.inl ⟨by kernel_rfl, fun w _ => by go_simp⟩) hHeld ?_
      refine wpAnyH_take (i := 16) (v := .bool true) rfl (by kernel_rfl) (by kernel_rfl) (by kernel_rfl) (fun _ _ _ h => h) (Or.inl ⟨by kernel_rfl, fun w _ => by kernel_rfl⟩) hHeld ?_
      refine wpAnyH_take (i := 17) (v := undef) rfl (by kernel_rfl) (by kernel_rfl) (by kernel_rfl) (fun _ _ _ h => h) (Or.inr ⟨by kernel_rfl, rfl⟩) hHeld ?_
      refine wpAnyH_take (i := 18) (v := undef) rfl (by kernel_rfl) (by kernel_rfl) (by kernel_rfl) (fun _ _ _ h => h) (Or.inr ⟨by kernel_rfl, rfl⟩) hHeld ?_
      refine wpAnyH_take (i := 19) (v := undef) rfl (by kernel_rfl) (by kernel_rfl) (by kernel_rfl) (fun _ _ _ h => h) (Or.inr ⟨by kernel_rfl, rfl⟩) hHeld ?_
      refine wpAnyH_take (i := 20) (v := undef) rfl (by kernel_rfl) (by kernel_rfl) (by kernel_rfl) (fun _ _ _ h => h) (Or.inr ⟨by kernel_rfl, rfl⟩) hHeld ?_
      refine wpAnyH_take (i := 21) (v := undef) rfl (by kernel_rfl) (by kernel_rfl) (by kernel_rfl) (fun _ _ _ h => h) (Or.inr ⟨by kernel_rfl, rfl⟩) hHeld ?_
      refine wpAnyH_take (i := 22) (v := undef) rfl (by kernel_rfl) (by kernel_rfl) (by kernel_rfl) (fun _ _ _ h => h) (Or.inr ⟨by kernel_rfl, rfl⟩) hHeld ?_
      refine wpAnyH_take (i := 23) (v := undef) rfl (by kernel_rfl) (by kernel_rfl) (by kernel_rfl) (fun _ _ _ h => h) (Or.inr ⟨by kernel_rfl, rfl⟩) hHeld ?_
      refine wpAnyH_take (i := 24) (v := undef) rfl (by kernel_rfl) (by kernel_rfl) (by kernel_rfl) (fun _ _ _ h => h) (Or.inr ⟨by kernel_rfl, rfl⟩) hHeld ?_
      refine wpAnyH_take (i := 25) (v := undef) rfl (by kernel_rfl) (by kernel_rfl) (by kernel_rfl) (fun _ _ _ h => h) (Or.inr ⟨by kernel_rfl, rfl⟩) hHeld ?_
      refine wpAnyH_take (i := 26) (v := undef) rfl (by kernel_rfl) (by kernel_rfl) (by kernel_rfl) (fun _ _ _ h => h) (Or.inr ⟨by kernel_rfl, rfl⟩) hHeld ?_
      refine wpAnyH_take (i := 27) (v := .bool true) rfl (by kernel_rfl) (by kernel_rfl) (by kernel_rfl) (fun _ _ _ h => h) (Or.inl ⟨by kernel_rfl, fun w _ => by go_simp⟩) hHeld ?_
      refine wpAnyH_take (i := 28) (v := .bool true) rfl (by kernel_rfl) (by kernel_rfl) (by kernel_rfl) (fun _ _ _ h => h) (Or.inl ⟨by kernel_rfl, fun w _ => by kernel_rfl⟩) hHeld ?_
      refine wpAnyH_take (i := 29) (v := undef) rfl (by kernel_rfl) (by kernel_rfl) (by kernel_rfl) (fun _ _ _ h => h) (Or.inr ⟨by kernel_rfl, rfl⟩) hHeld ?_
      refine wpAnyH_take (i := 30) (v := undef) rfl (by kernel_rfl) (by kernel_rfl) (by kernel_rfl) (fun _ _ _ h => h) (Or.inr ⟨by kernel_rfl, rfl⟩) hHeld ?_
      refine wpAnyH_take (i := 31) (v := undef) rfl (by kernel_rfl) (by kernel_rfl) (by kernel_rfl) (fun _ _ _ h => h) (Or.inr ⟨by kernel_rfl, rfl⟩) hHeld ?_
      refine wpAnyH_take (i := 32) (v := undef) rfl (by kernel_rfl) (by kernel_rfl) (by kernel_rfl) (fun _ _ _ h => h) (Or.inr ⟨by kernel_rfl, rfl⟩) hHeld ?_
      refine wpAnyH_take (i := 33) (v := undef) rfl (by kernel_rfl) (by kernel_rfl) (by kernel_rfl) (fun _ _ _ h => h) (Or.inr ⟨by kernel_rfl, rfl⟩) hHeld ?_
      refine wpAnyH_take (i := 34) (v := undef) rfl (by kernel_rfl) (by kernel_rfl) (by kernel_rfl) (fun _ _ _ h => h) (Or.inr ⟨by kernel_rfl, rfl⟩) hHeld ?_
      refine wpAnyH_take (i := 35) (v := undef) rfl (by kernel_rfl) (by kernel_rfl) (by kernel_rfl) (fun _ _ _ h => h) (Or.inr ⟨by kernel_rfl, rfl⟩) hHeld ?_
      refine wpAnyH_take (i := 36) (v := undef) rfl (by kernel_rfl) (by kernel_rfl) (by kernel_rfl) (fun _ _ _ h => h) (Or.inr ⟨by kernel_rfl, rfl⟩) hHeld ?_
      refine wpAnyH_take (i := 37) (v := undef) rfl (by kernel_rfl) (by kernel_rfl) (by kernel_rfl) (fun _ _ _ h => h) (Or.inr ⟨by kernel_rfl, rfl⟩) hHeld ?_
      refine wpAnyH_take (i := 38) (v := undef) rfl (by kernel_rfl) (by kernel_rfl) (by kernel_rfl) (fun _ _ _ h => h) (Or.inr ⟨by kernel_rfl, rfl⟩) hHeld ?_
      refine wpAnyH_take (i := 39) (v := .bool true) rfl (by kernel_rfl) (by kernel_rfl) (by kernel_rfl) (fun _ _ _ h => h) (Or.inl ⟨by kernel_rfl, fun w _ => by go_simp⟩) hHeld ?_
      refine wpAnyH_done (by kernel_rfl) ?_ _
      refine hKK _ _ ?_
      refine act_eq (a' := ⟨#[.pointer (some ⟨q1, 0, none⟩), .pointer (some ⟨q2, 0, none⟩), undef, undef, .bool false, .slice av1 N1 cv1, .slice av2 N2 cv2, undef, undef, undef, undef, .pointer (some ⟨q1, 0, none⟩), .bool false, .bool false, .pointer (some ⟨q2, 0, none⟩), .bool false, .bool false, undef, undef, undef, undef, undef, undef, .pointer (some ⟨q1, 0, none⟩), .slice av1 N1 cv1, .pointer (some ⟨q2, 0, none⟩), .slice av2 N2 cv2, .pointer (some ⟨q1, 0, none⟩), .pointer (some ⟨q1, 0, none⟩), .pointer (some ⟨q1, 0, none⟩), .int .i64 X, .pointer (some ⟨q2, 0, none⟩), .pointer (some ⟨q2, 0, none⟩), .pointer (some ⟨q2, 0, none⟩), .int .i64 X, .bool false, .bool false, .slice av1 N1 cv1, .int .i64 N1, .slice av2 N2 cv2, .int .i64 N2, .bool true, .bool true, .bool true, undef, undef, undef, undef, undef, undef, undef, undef, undef, undef, .bool true, .bool true, undef, undef, undef, undef, undef, undef, undef, undef, undef, undef, .bool true, undef, undef, undef, undef, undef, undef, undef, undef, undef, undef, undef, undef, undef, undef, undef, undef, undef, undef, undef, undef, undef, undef, undef, undef, undef, undef, undef, undef, undef, undef, undef, undef, undef, undef, undef, undef, undef, undef, undef, undef, undef], []⟩) (by kernel_rfl) ?_
      clear HST HS HR HW HM HF HO1 HO2
      go_wp2
      go_ret
      exact ⟨rfl, K0.out⟩
  · have hb : (X != Y) = true := by simp [hx]
    have hBf : B = false := by rw [HBN.out]; simp [hx]
    subst hBf
    rename_i QQ KK hKK
    refine wp_region_held_drew (S := fun W : World => W.cell? ⟨q1, 0, none⟩ = some (.int .i64 X) ∧ W.cell? ⟨q1, 2, none⟩ = some (.pointer (some ⟨a1, 0, none⟩)) ∧ W.cell? ⟨q1, 3, none⟩ = some (.pointer (some ⟨b1, 0, none⟩)) ∧ W.cell? ⟨q2, 0, none⟩ = some (.int .i64 Y) ∧ W.cell? ⟨q2, 2, none⟩ = some (.pointer (some ⟨a2, 0, none⟩)) ∧ W.cell? ⟨q2, 3, none⟩ = some (.pointer (some ⟨b2, 0, none⟩))) (by kernel_rfl) (HST.out _ K0.out) (fun hHeld => ?_)
    refine wpAnyH_take (i := 0) (v := .pointer (some ⟨q1, 0, none⟩)) rfl (by kernel_rfl) (by kernel_rfl) (by kernel_rfl) (fun _ _ _ h => h) (Or.inl ⟨by kernel_rfl, fun w _ => by kernel_rfl⟩) hHeld ?_
    refine wpAnyH_take (i := 1) (v := .pointer (some ⟨q1, 0, none⟩)) rfl (by kernel_rfl) (by kernel_rfl) (by kernel_rfl) (fun _ _ _ h => h) (Or.inl ⟨by kernel_rfl, fun w _ => by kernel_rfl⟩) hHeld ?_
    refine wpAnyH_take (i := 2) (v := .pointer (some ⟨q1, 0, none⟩)) rfl (by kernel_rfl) (by kernel_rfl) (by kernel_rfl) (fun _ _ _ h => h) (Or.inl ⟨by kernel_rfl, fun w _ => by kernel_rfl⟩) hHeld ?_
    refine wpAnyH_take (i := 3) (v := .int .i64 X) rfl (by kernel_rfl) (by kernel_rfl) (by kernel_rfl) (fun _ _ _ h => h) (Or.inl ⟨by kernel_rfl, by intro w hSw; obtain ⟨s0, s1, s2, s3, s4, s5⟩ := hSw; go_simp⟩) hHeld ?_
    refine wpAnyH_take (i := 4) (v := .pointer (some ⟨q2, 0, none⟩)) rfl (by kernel_rfl) (by kernel_rfl) (by kernel_rfl) (fun _ _ _ h => h) (Or.inl ⟨by kernel_rfl, fun w _ => by kernel_rfl⟩) hHeld ?_
    refine wpAnyH_take (i := 5) (v := .pointer (some ⟨q2, 0, none⟩)) rfl (by kernel_rfl) (by kernel_rfl) (by kernel_rfl) (fun _ _ _ h => h) (Or.inl ⟨by kernel_rfl, fun w _ => by kernel_rfl⟩) hHeld ?_
    refine wpAnyH_take (i := 6) (v := .pointer (some ⟨q2, 0, none⟩)) rfl (by kernel_rfl) (by kernel_rfl) (by kernel_rfl) (fun _ _ _ h => h) (Or.inl ⟨by kernel_rfl, fun w _ => by kernel_rfl⟩) hHeld ?_
    refine wpAnyH_take (i := 7) (v := .int .i64 Y) rfl (by kernel_rfl) (by kernel_rfl) (by kernel_rfl) (fun _ _ _ h => h) (Or.inl ⟨by kernel_rfl, by intro w hSw; obtain ⟨s0, s1, s2, s3, s4, s5⟩ := hSw; go_simp⟩) hHeld ?_
    refine wpAnyH_take (i := 8) (v := .bool true) rfl (by kernel_rfl) (by kernel_rfl) (by kernel_rfl) (fun _ _ _ h => h) (Or.inl ⟨by kernel_rfl, fun w _ => by go_simp⟩) hHeld ?_
    refine wpAnyH_take (i := 9) (v := .bool true) rfl (by kernel_rfl) (by kernel_rfl) (by kernel_rfl) (fun _ _ _ h => h) (Or.inl ⟨by kernel_rfl, fun w _ => by kernel_rfl⟩) hHeld ?_
    refine wpAnyH_take (i := 10) (v := undef) rfl (by kernel_rfl) (by kernel_rfl) (by kernel_rfl) (fun _ _ _ h => h) (Or.inr ⟨by kernel_rfl, rfl⟩) hHeld ?_
    refine wpAnyH_take (i := 11) (v := undef) rfl (by kernel_rfl) (by kernel_rfl) (by kernel_rfl) (fun _ _ _ h => h) (Or.inr ⟨by kernel_rfl, rfl⟩) hHeld ?_
    refine wpAnyH_take (i := 12) (v := undef) rfl (by kernel_rfl) (by kernel_rfl) (by kernel_rfl) (fun _ _ _ h => h) (Or.inr ⟨by kernel_rfl, rfl⟩) hHeld ?_
    refine wpAnyH_take (i := 13) (v := undef) rfl (by kernel_rfl) (by kernel_rfl) (by kernel_rfl) (fun _ _ _ h => h) (Or.inr ⟨by kernel_rfl, rfl⟩) hHeld ?_
    refine wpAnyH_take (i := 14) (v := undef) rfl (by kernel_rfl) (by kernel_rfl) (by kernel_rfl) (fun _ _ _ h => h) (Or.inr ⟨by kernel_rfl, rfl⟩) hHeld ?_
    refine wpAnyH_take (i := 15) (v := .bool true) rfl (by kernel_rfl) (by kernel_rfl) (by kernel_rfl) (fun _ _ _ h => h) (Or.inl ⟨by kernel_rfl, fun w _ => by go_simp⟩) hHeld ?_
    refine wpAnyH_take (i := 16) (v := .bool true) rfl (by kernel_rfl) (by kernel_rfl) (by kernel_rfl) (fun _ _ _ h => h) (Or.inl ⟨by kernel_rfl, fun w _ => by kernel_rfl⟩) hHeld ?_
    refine wpAnyH_take (i := 17) (v := undef) rfl (by kernel_rfl) (by kernel_rfl) (by kernel_rfl) (fun _ _ _ h => h) (Or.inr ⟨by kernel_rfl, rfl⟩) hHeld ?_
    refine wpAnyH_take (i := 18) (v := undef) rfl (by kernel_rfl) (by kernel_rfl) (by kernel_rfl) (fun _ _ _ h => h) (Or.inr ⟨by kernel_rfl, rfl⟩) hHeld ?_
    refine wpAnyH_take (i := 19) (v := undef) rfl (by kernel_rfl) (by kernel_rfl) (by kernel_rfl) (fun _ _ _ h => h) (Or.inr ⟨by kernel_rfl, rfl⟩) hHeld ?_
    refine wpAnyH_take (i := 20) (v := undef) rfl (by kernel_rfl) (by kernel_rfl) (by kernel_rfl) (fun _ _ _ h => h) (Or.inr ⟨by kernel_rfl, rfl⟩) hHeld ?_
    refine wpAnyH_take (i := 21) (v := undef) rfl (by kernel_rfl) (by kernel_rfl) (by kernel_rfl) (fun _ _ _ h => h) (Or.inr ⟨by kernel_rfl, rfl⟩) hHeld ?_
    refine wpAnyH_take (i := 22) (v := undef) rfl (by kernel_rfl) (by kernel_rfl) (by kernel_rfl) (fun _ _ _ h => h) (Or.inr ⟨by kernel_rfl, rfl⟩) hHeld ?_
    refine wpAnyH_take (i := 23) (v := undef) rfl (by kernel_rfl) (by kernel_rfl) (by kernel_rfl) (fun _ _ _ h => h) (Or.inr ⟨by kernel_rfl, rfl⟩) hHeld ?_
    refine wpAnyH_take (i := 24) (v := undef) rfl (by kernel_rfl) (by kernel_rfl) (by kernel_rfl) (fun _ _ _ h => h) (Or.inr ⟨by kernel_rfl, rfl⟩) hHeld ?_
    refine wpAnyH_take (i := 25) (v := undef) rfl (by kernel_rfl) (by kernel_rfl) (by kernel_rfl) (fun _ _ _ h => h) (Or.inr ⟨by kernel_rfl, rfl⟩) hHeld ?_
    refine wpAnyH_take (i := 26) (v := undef) rfl (by kernel_rfl) (by kernel_rfl) (by kernel_rfl) (fun _ _ _ h => h) (Or.inr ⟨by kernel_rfl, rfl⟩) hHeld ?_
    refine wpAnyH_take (i := 27) (v := .bool true) rfl (by kernel_rfl) (by kernel_rfl) (by kernel_rfl) (fun _ _ _ h => h) (Or.inl ⟨by kernel_rfl, fun w _ => by go_simp⟩) hHeld ?_
    refine wpAnyH_take (i := 28) (v := .bool true) rfl (by kernel_rfl) (by kernel_rfl) (by kernel_rfl) (fun _ _ _ h => h) (Or.inl ⟨by kernel_rfl, fun w _ => by kernel_rfl⟩) hHeld ?_
    refine wpAnyH_take (i := 29) (v := undef) rfl (by kernel_rfl) (by kernel_rfl) (by kernel_rfl) (fun _ _ _ h => h) (Or.inr ⟨by kernel_rfl, rfl⟩) hHeld ?_
    refine wpAnyH_take (i := 30) (v := undef) rfl (by kernel_rfl) (by kernel_rfl) (by kernel_rfl) (fun _ _ _ h => h) (Or.inr ⟨by kernel_rfl, rfl⟩) hHeld ?_
    refine wpAnyH_take (i := 31) (v := undef) rfl (by kernel_rfl) (by kernel_rfl) (by kernel_rfl) (fun _ _ _ h => h) (Or.inr ⟨by kernel_rfl, rfl⟩) hHeld ?_
    refine wpAnyH_take (i := 32) (v := undef) rfl (by kernel_rfl) (by kernel_rfl) (by kernel_rfl) (fun _ _ _ h => h) (Or.inr ⟨by kernel_rfl, rfl⟩) hHeld ?_
    refine wpAnyH_take (i := 33) (v := undef) rfl (by kernel_rfl) (by kernel_rfl) (by kernel_rfl) (fun _ _ _ h => h) (Or.inr ⟨by kernel_rfl, rfl⟩) hHeld ?_
    refine wpAnyH_take (i := 34) (v := undef) rfl (by kernel_rfl) (by kernel_rfl) (by kernel_rfl) (fun _ _ _ h => h) (Or.inr ⟨by kernel_rfl, rfl⟩) hHeld ?_
    refine wpAnyH_take (i := 35) (v := undef) rfl (by kernel_rfl) (by kernel_rfl) (by kernel_rfl) (fun _ _ _ h => h) (Or.inr ⟨by kernel_rfl, rfl⟩) hHeld ?_
    refine wpAnyH_take (i := 36) (v := undef) rfl (by kernel_rfl) (by kernel_rfl) (by kernel_rfl) (fun _ _ _ h => h) (Or.inr ⟨by kernel_rfl, rfl⟩) hHeld ?_
    refine wpAnyH_take (i := 37) (v := undef) rfl (by kernel_rfl) (by kernel_rfl) (by kernel_rfl) (fun _ _ _ h => h) (Or.inr ⟨by kernel_rfl, rfl⟩) hHeld ?_
    refine wpAnyH_take (i := 38) (v := undef) rfl (by kernel_rfl) (by kernel_rfl) (by kernel_rfl) (fun _ _ _ h => h) (Or.inr ⟨by kernel_rfl, rfl⟩) hHeld ?_
    refine wpAnyH_take (i := 39) (v := .bool true) rfl (by kernel_rfl) (by kernel_rfl) (by kernel_rfl) (fun _ _ _ h => h) (Or.inl ⟨by kernel_rfl, fun w _ => by go_simp⟩) hHeld ?_
    refine wpAnyH_done (by kernel_rfl) ?_ _
    refine hKK _ _ ?_
    refine act_eq (a' := ⟨#[.pointer (some ⟨q1, 0, none⟩), .pointer (some ⟨q2, 0, none⟩), undef, undef, .bool false, .slice av1 N1 cv1, .slice av2 N2 cv2, undef, undef, undef, undef, .pointer (some ⟨q1, 0, none⟩), .bool false, .bool false, .pointer (some ⟨q2, 0, none⟩), .bool false, .bool false, undef, undef, undef, undef, undef, undef, .pointer (some ⟨q1, 0, none⟩), .slice av1 N1 cv1, .pointer (some ⟨q2, 0, none⟩), .slice av2 N2 cv2, .pointer (some ⟨q1, 0, none⟩), .pointer (some ⟨q1, 0, none⟩), .pointer (some ⟨q1, 0, none⟩), .int .i64 X, .pointer (some ⟨q2, 0, none⟩), .pointer (some ⟨q2, 0, none⟩), .pointer (some ⟨q2, 0, none⟩), .int .i64 Y, .bool true, .bool true, undef, undef, undef, undef, undef, .bool true, .bool true, undef, undef, undef, undef, undef, undef, undef, undef, undef, undef, .bool true, .bool true, undef, undef, undef, undef, undef, undef, undef, undef, undef, undef, .bool true, undef, undef, undef, undef, undef, undef, undef, undef, undef, undef, undef, undef, undef, undef, undef, undef, undef, undef, undef, undef, undef, undef, undef, undef, undef, undef, undef, undef, undef, undef, undef, undef, undef, undef, undef, undef, undef, undef, undef, undef, undef], []⟩) (by kernel_rfl) ?_
    clear HST HS HR HW HM HF HO1 HO2
    go_wp2
    go_ret
    exact ⟨rfl, K0.out⟩
set_option maxRecDepth 100000 in
theorem rqsame_nil (w : World) (p p' : Option Addr) (h : p = none ∨ p' = none) : Calls Try.prog 14 #[.pointer p, .pointer p'] w fun e w' => e = .returned (.bool (p.isNone && p'.isNone)) ∧ Kp w w' [] := by
  go_enter Try.func14, Try.ntmps14
  cases p <;> cases p' <;> simp at h
  all_goals
    go_wp2
    go_ret
    exact ⟨rfl, by first | exact Kp.refl _ _ | exact Kp.drew _ _ | exact Kp.drewN _ _ _⟩
theorem rqsame_q (w : World) (q1 a1 b1 q2 a2 b2 : Nat) (B1 B2 : Option Nat) (M M' : Qs) (h : Rq w q1 a1 b1 B1 M) (h' : Rq w q2 a2 b2 B2 M') (ok : Qok M) (ok' : Qok M') : Calls Try.prog 14 #[.pointer (some ⟨q1, 0, none⟩), .pointer (some ⟨q2, 0, none⟩)] w fun e w' => e = .returned (.bool (sameQ M M')) ∧ Kp w w' [] := by
  obtain ⟨V1, R1, g1, -, h⟩ := h
  obtain ⟨V2, R2, g2, -, h'⟩ := h'
  exact rqsame w q1 a1 b1 q2 a2 b2 V1 V2 R1 R2 g1 g2 M M' h h' ok ok'
end Go.Proofs.Ytllkopekfanfaaa
