/- The reference's Next. -/
import Derived.Test.YtoenipaccnpihaaRq
namespace Go.Proofs.Ytoenipaccnpihaa
open Go.RowKit Go.Shelf Go.Sort Go.Maps
open Go.Lib hiding intOf
attribute [local go_sem] Oper.semAt_some

theorem step_joinE {w : World} {ops : Array Oper} {o : Oper} {a : Act} {K : Act → World → Prop} {Q : Exit → Act → World → Prop} {E : Prop} (hgd : o.guard = none) (s x : Operand) (ho : o.op = .call { callee := .builtin .append, args := #[s, x], argTypes := #[62, 62] }) (D : Nat) (hD : o.dst = some D)
    (base : Nat) (V VX : Value) (l m : El) (hs : a.eval s = V) (hV : Er w base V l) (hx : a.eval x = VX) (hX : Vi w VX m) (hl : l.length ≤ 1000000) (hm : m.length ≤ 1000000) (hb : base ≤ w.heap.size)
    (h : ∀ v' w', Er w' base v' (l ++ m) → w.grownBy w' V.ownBlock → K (a.put (some D) v') w') :
    if Region.wanted o (yielded ops a.tmps) = true then Oper.wp Try.prog o a w K Q else E := by
  have hw : Region.wanted o (yielded ops a.tmps) = true := by simp [Region.wanted, hgd]
  rw [if_pos hw]
  rw [← hD] at h
  exact wp_joinE s x ho base V VX l m hs hV hx hX hl hm hb h
/-- The row is another one. -/
theorem Rm.set {w w1 : World} {rb : Nat} {Q : List Nat} {T S : Nat} {M : Nat → Nat} {L L' : El} {V' : Value} {base : Nat} (h : Rm w rb Q T S M L) (hk : Kp w w1 []) (he : Er w1 base V' L') (hb : w.heap.size ≤ base) : Rst w (w1.setCell ⟨rb, 18, none⟩ V') rb Q T S M L' := by
  have hlt := h.lt rb h.mem
  obtain ⟨V, hQ, hc, -⟩ := h
  have k2 := Kp.setCell w1 ⟨rb, 18, none⟩ V'
  refine ⟨rb :: V'.ownBlock.toList, ⟨V', rfl, (hc.keep hk (by simp)).setRow V', (he.kp k2 (fun g hg hm => by
    have := (owns_block he hg).1
    simp at hm
    omega)).low (Nat.zero_le _)⟩, fun k hm => ?_, hk.nil.trans k2⟩
  rcases List.mem_cons.1 hm with rfl | hm
  · exact .inl (by rw [hQ]; simp)
  · right
    have := (owns_block he (g := k) (by simpa using hm)).1
    omega
set_option maxRecDepth 100000 in
set_option maxHeartbeats 4000000 in
theorem rnext_some (w : World) (rb : Nat) (Q : List Nat) (T S : Nat) (M : Nat → Nat) (L : El) (t : Int) (W k : Nat) (x : Nat × Nat × Int) (h : Rm w rb Q T S M L) (hk : k < L.length) (hx : L[k]? = some x) (hl : L.length ≤ 600)
    (hp : ∀ z, Rm z rb Q T S M L → Calls Try.prog 30 #[.pointer (some ⟨rb, 0, none⟩), .int .i64 t, .int .u32 W] z fun e w' => e = .returned (.tuple #[Sv (x.2.1 : Nat) x.2.2, .bool true]) ∧ Kp z w' [])
    (hq : ∀ z, Rm z rb Q T S M L → Calls Try.prog 48 #[.pointer (some ⟨rb, 0, none⟩), .int .i64 t, .int .u32 W] z fun e w' => e = .returned (.int .i64 (k : Nat)) ∧ w' = z) :
    Calls Try.prog 27 #[.pointer (some ⟨rb, 0, none⟩), .int .i64 t, .int .u32 W] w fun e w' => e = .returned (.tuple #[Sv (x.2.1 : Nat) x.2.2, .bool true]) ∧ Rst w w' rb Q T S M (L.take k ++ L.drop (k + 1)) := by
  have HK := hid (Kp.alloc w (.cells #[.int .i64 0, .int .i64 0] 47) [])
  have HP := hid (hp _ (h.same HK.out))
  have HQ := hid hq
  have H := hid h
  have hrb := h.lt rb h.mem
  unfold Sv at HP ⊢
  obtain ⟨V, -, hc, he⟩ := h
  obtain ⟨ao, cap, rfl⟩ := he.slice
  have HC := hid hc
  have HE := hid he
  obtain ⟨g, rfl, c1, -⟩ := he.at hx
  have hgl : g < w.heap.size := World.block_lt_of_cell? w _ c1
  have hle := he.le
  obtain ⟨N, hN⟩ : ∃ N, L.length = N := ⟨_, rfl⟩
  rw [hN] at HC HE hle hk hl
  have HN := hid hN
  have hNc := hle.2
  generalize (x.2.1 : Nat) = n at HP ⊢
  generalize x.2.2 = v at HP ⊢
  clear hc he hp hq hx c1 hle hN
  go_enter Try.func27, Try.ntmps27
  go_wp2_with fail
  refine HP.out.mono ?_
  rintro e w1 ⟨rfl, hk1⟩
  have K1 := hid hk1
  have hs := hk1.size
  have b0 := hk1.block w.heap.size (by simp) (by simp)
  rw [heap_alloc_new] at b0
  have B0 := hid b0
  have hlt : w.heap.size < w1.heap.size := by simp at hs; omega
  clear hk1 HP b0
  go_wp2_with fail
  obtain ⟨W1, hW1⟩ : ∃ W1, w1.alloc (.cells #[.int .i64 (n : Nat), .int .i64 v] 47) = W1 := ⟨_, rfl⟩
  have kA : Kp w1 W1 [] := by rw [← hW1]; exact Kp.alloc _ _ _
  have nA : W1.heap[w1.heap.size]? = some (.cells #[.int .i64 (n : Nat), .int .i64 v] 47 (0, 0)) := by rw [← hW1]; exact heap_alloc_new w1 _
  have KW := hid ((HK.out.trans K1.out).trans kA)
  have BX := hid (And.intro ((kA.block w.heap.size hlt (by simp)).trans B0.out) nA)
  try rw [hW1]
  refine (HQ.out W1 (H.out.same KW.out)).mono ?_
  rintro e w2 ⟨rfl, hw⟩; obtain rfl := hw.symm
  have H1 := hid (H.out.same KW.out)
  have E1 := hid (HE.out.keep KW.out)
  have VF := hid (fun (z : World) (hz : Kp W1 z []) => (E1.out.keep hz).front (k := k) (by have := HN.out; omega))
  have VB := hid (show ∀ (z : World), Kp W1 z [] → ∀ o m c, m = N - (k + 1) → (cap ≠ k + 1 → o = (k + 1) * 3) → (cap = k + 1 → o = 0) → Vi z (.slice (some ⟨g, o, none⟩) m c) (L.drop (k + 1)) from fun z hz o m c hm h1 h2 => by
    subst hm
    by_cases q : cap = k + 1
    · rw [h2 q, show N - (k + 1) = 0 by omega, show L.drop (k + 1) = [] from List.drop_eq_nil_of_le (by have := HN.out; omega)]
      exact vi_empty z g 0 c
    · rw [h1 q]
      exact (E1.out.keep hz).back (by have := HN.out; omega))
  have CK := hid (fun (z : World) (hz : Kp W1 z []) => (HC.out.keep (KW.out.trans hz) (by simp)).row)
  have FK := hid (fun (z : World) (hz : Kp W1 z []) => (HC.out.keep (KW.out.trans hz) (by simp)).free 18)
  have cc := CK.out W1 (Kp.refl _ _)
  have hwr : IntKind.i64.wrap ((k : Int) + 1) = (k : Int) + 1 := IntWalk.i64_in _ ⟨by omega, by omega⟩
  have hic1 : k + 1 ≤ cap := by omega
  have hic0 : (0 : Int) ≤ (k : Int) + 1 := by omega
  have hic2 : k ≤ cap := by omega
  have hic3 : (k : Int) ≤ cap := by omega
  have hiN1 : k + 1 ≤ N := by omega
  have hiN2 : (k : Int) + 1 ≤ N := by omega
  clear kA nA hs hW1 HQ HC HE HK K1 B0
  rcases (show cap = k + 1 ∨ k + 1 < cap by omega) with hq1 | hq1
  case' inl =>
    subst hq1
    have hq3 : (k : Int) ≤ (k : Int) + 1 := by omega
  case' inr => have hq2 : ¬ cap = k + 1 := by omega
  all_goals
    go_wp2_with fail
    go_region_law
      (first
        | (have _hh := N2; refine step_joinE (by rfl) _ _ (by rfl) 38 (by rfl) W1.heap.size (.slice ao2 n2 cp2) _ (L.take k) (L.drop (k + 1)) (by rfl) N2.out (by rfl) (VB.out _ K2.out _ _ _ (by omega) (by intros; omega) (by intros; omega)) (by rw [List.length_take]; omega) (by rw [List.length_drop]; have := HN.out; omega) K2.out.size ?_; intro v3 w3 hN3 hG3; obtain ⟨ao3, cp3, hv3⟩ := hN3.slice; obtain ⟨n3, hn3⟩ : ∃ n3, (L.take k ++ L.drop (k + 1)).length = n3 := ⟨_, rfl⟩; rw [hn3] at hv3; subst hv3; have K3 := hid (grown_er N2.out hG3 K2.out (Nat.le_refl _)); have N3 := hid hN3; have ff3 := FK.out _ K3.out; have cc3 := CK.out _ K3.out; clear hN3 hG3 hn3 _hh)
        | (refine step_joinE (by rfl) _ _ (by rfl) 30 (by rfl) W1.heap.size (.slice none 0 0) _ [] (L.take k) (by rfl) (Er.nil _ _) (by rfl) (VF.out _ (Kp.drew _ _)) (by simp) (by rw [List.length_take]; omega) (Nat.le_refl _) ?_; intro v2 w2 hN2 hG2; rw [List.nil_append] at hN2; obtain ⟨ao2, cp2, hv2⟩ := hN2.slice; obtain ⟨n2, hn2⟩ : ∃ n2, (L.take k).length = n2 := ⟨_, rfl⟩; rw [hn2] at hv2; subst hv2; have K2 := hid ((Kp.drew W1 []).trans (Kp.ofGrown (rows := []) hG2 (by intro g hg; cases hg))); have N2 := hid hN2; have cc2 := CK.out _ K2.out; clear hN2 hG2 hn2))
  all_goals
    have HS := H1.out.set K3.out N3.out (Nat.le_refl _)
    have kS : Kp W1 (w3.setCell ⟨rb, 18, none⟩ (.slice ao3 n3 cp3)) [rb] := (K3.out.nil (r := [rb])).trans (Kp.setCell w3 ⟨rb, 18, none⟩ (.slice ao3 n3 cp3))
    have z1 := lt_of_block BX.out.1
    have z2 := lt_of_block BX.out.2
    have x0 := (kS.block w.heap.size z1 (by simp; omega)).trans BX.out.1
    have x1 := (kS.block w1.heap.size z2 (by simp; omega)).trans BX.out.2
    have e0 := cell_two0 x0
    have e1 := cell_two1 x0
    have f0 := free_two x0 0
    have f1 := free_two x0 1
    have y0 := cell_two0 x1
    have y1 := cell_two1 x1
    have X0 := hid x0
    have F := hid (show Rst w (((w3.setCell ⟨rb, 18, none⟩ (.slice ao3 n3 cp3)).setCell ⟨w.heap.size, 0, none⟩ (.int .i64 (n : Nat))).setCell ⟨w.heap.size, 1, none⟩ (.int .i64 v)) rb Q T S M (L.take k ++ L.drop (k + 1)) from by
      obtain ⟨Q', s, nn, kk⟩ := HS
      refine ⟨Q', s.keep (kp_both _ w.heap.size _ _) (fun j hj hm => ?_), fun j hj => (nn j hj).imp id (fun q => Nat.le_trans (Nat.le_of_lt z1) q), (KW.out.nil.trans kk).past (kp_both _ w.heap.size _ _) (fun j hj hl => by simp at hj; omega)⟩
      simp at hm
      subst hm
      rcases nn _ hj with q | q
      · have := H.out.lt _ q
        omega
      · omega)
    clear HS kS x0 x1 K3 N3 N2 K2 cc3 cc2 ff3 cc VF VB CK FK
    go_wp2
    refine bodyPost_ret (results_cell_row2 rfl _ _ w.heap.size 47 #[.int .i64 (n : Nat), .int .i64 v] (0, 0) _ rfl (set_both X0.out) Try.underlying47 rfl (size47 _ _)) rfl ?_
    exact ⟨rfl, F.out⟩
set_option maxRecDepth 100000 in
theorem rnext_none (w : World) (rb : Nat) (Q : List Nat) (T S : Nat) (M : Nat → Nat) (L : El) (t : Int) (W : Nat) (h : Rm w rb Q T S M L)
    (hp : ∀ z, Rm z rb Q T S M L → Calls Try.prog 30 #[.pointer (some ⟨rb, 0, none⟩), .int .i64 t, .int .u32 W] z fun e w' => e = .returned (.tuple #[Sv 0 0, .bool false]) ∧ Kp z w' []) :
    Calls Try.prog 27 #[.pointer (some ⟨rb, 0, none⟩), .int .i64 t, .int .u32 W] w fun e w' => e = .returned (.tuple #[Sv 0 0, .bool false]) ∧ Kp w w' [] := by
  have HK := hid (Kp.alloc w (.cells #[.int .i64 0, .int .i64 0] 47) [])
  have HP := hid (hp _ (h.same HK.out))
  unfold Sv at HP ⊢
  clear h hp
  go_enter Try.func27, Try.ntmps27
  go_wp2_with fail
  refine HP.out.mono ?_
  rintro e w1 ⟨rfl, hk⟩
  have K1 := hid hk
  have hs := hk.size
  have c0 := hk.block w.heap.size (by simp) (by simp)
  rw [heap_alloc_new] at c0
  clear hk
  have hlt : w.heap.size < w1.heap.size := by simp at hs; omega
  have d0 := cell_two0 c0
  have d1 := cell_two1 c0
  have f0 := free_two c0 0
  have f1 := free_two c0 1
  clear HP
  go_wp2
  refine bodyPost_ret (results_cell_row2 rfl _ _ w.heap.size 47 #[.int .i64 0, .int .i64 0] (0, 0) _ rfl (both_alloc _ c0) Try.underlying47 rfl (size47 _ _)) rfl ?_
  exact ⟨rfl, (HK.out.trans K1.out).past ((kp_both w1 w.heap.size _ _).trans (Kp.alloc _ _ _)) (by intro k hk hl; simp at hk; omega)⟩
/-- Next. -/
theorem rnext_any (w : World) (rb : Nat) (Q : List Nat) (T S : Nat) (M : Nat → Nat) (L : El) (t : Int) (W : Nat) (h : Rm w rb Q T S M L) (hok : Ok T S L) (hl : L.length ≤ 600) (hW : W < 4294967296) : Calls Try.prog 27 #[.pointer (some ⟨rb, 0, none⟩), .int .i64 t, .int .u32 W] w fun e w' => e = .returned (.tuple #[nxV T L t W, .bool (nxB T L t W)]) ∧ Rst w w' rb Q T S M (nxL T L t W) := by
  have hp := fun z (hz : Rm z rb Q T S M L) => rpeek_any z rb Q T S M L t W hz hok hl hW
  rcases rplace_any w rb Q T S M L t W h hok hl hW with ⟨h1, -⟩ | ⟨k, x, hk, h1, h2, h3, h4, h5, h6, -⟩
  · unfold nxV nxB nxL at *
    rw [if_neg h1, if_neg h1, decide_eq_false h1]
    rw [if_neg h1, decide_eq_false h1] at hp
    refine (rnext_none w rb Q T S M L t W h hp).mono ?_
    rintro e w' ⟨rfl, hk⟩
    exact ⟨rfl, Rst.stay h hk⟩
  · have hq := fun z (hz : Rm z rb Q T S M L) => rplace_any z rb Q T S M L t W hz hok hl hW
    rw [← h6]
    unfold nxV nxB at *
    rw [if_pos h1, decide_eq_true h1, h4, h5]
    rw [if_pos h1, decide_eq_true h1, h4, h5] at hp
    refine rnext_some w rb Q T S M L t W k x h h2 h3 hl hp fun z hz => ?_
    rcases hq z hz with ⟨g1, -⟩ | ⟨k', x', gk, -, -, -, -, -, -, g7⟩
    · exact (g1 h1).elim
    · have : k' = k := by
        rw [hk] at gk
        simpa using gk.symm
      rw [← this]
      exact g7
end Go.Proofs.Ytoenipaccnpihaa
