/- For: those that wait for one, rising, as they are now. -/
import Derived.Test.YtomdnppnabncaaaRing
namespace Go.Proofs.Ytomdnppnabncaaa
open Go.RowKit Go.Shelf
open Go.Lib hiding intOf

set_option maxRecDepth 100000 in
set_option maxHeartbeats 2000000 in
theorem waiting_any (w : World) (gb : Nat) (G : Gs) (t : Int) (h : Gr0 w gb G) : Calls Try.prog 35 #[.pointer (some ⟨gb, 0, none⟩), .int .i64 t] w fun e w' => (∃ v, e = .returned v ∧ Ns w' w.heap.size v (forK G t G.n)) ∧ Kp w w' [] := by
  obtain ⟨n, hn⟩ : ∃ n, G.n = n := ⟨_, rfl⟩
  have h2 := h.ok.n2
  have c0 := h.c.cnt
  rw [hn] at h2 c0
  have h2' : (n : Int) ≤ 16 := by omega
  have hlt := h.c.lt
  have HR := hid h
  have HN := hid hn
  clear h
  rw [hn]
  clear hn
  go_enter Try.func35, Try.ntmps35
  go_wp2_with fail
  clear c0
  go_loopw [5, 11] (fun vl vi wr => ∃ (k m : Nat) (ao : Option Addr) (cap : Nat), k ≤ n ∧ vl = .slice ao m cap ∧ vi = .int .i64 k ∧ Hid (m = (forK G t k).length ∧ Ns wr w.heap.size (.slice ao m cap) (forK G t k) ∧ Kp w wr [])) (fun _ vi _ => n - (intOf vi).toNat)
  case atStart => exact ⟨0, 0, none, 0, by omega, rfl, rfl, hid ⟨rfl, Ns.nil _ _, Kp.refl _ _⟩⟩
  case round =>
    obtain ⟨k, m, ao, cap, hk, rfl, rfl, hR⟩ := hrel
    have hr := HR.out.still hR.out.2.2
    by_cases hlt2 : k < n
    · have hltI : (k : Int) < n := by omega
      have hk6 : (k : Int) < 16 := by omega
      have cw := hr.wt (t := k) (by rw [HN.out]; exact hlt2)
      obtain ⟨y, hy⟩ : ∃ y, G.w k = y := ⟨_, rfl⟩
      rw [hy] at cw
      have HY := hid hy
      have HBK := hid (show (forK G t k).length ≤ 100000 by have := forK_len G t k; omega)
      clear hr hy
      by_cases hyt : y = t
      · have hq : (y == t) = true := by simp [hyt]
        have HS := hid (show forK G t (k + 1) = forK G t k ++ [(k : Int)] by rw [forK_step, if_pos (HY.out.trans hyt)])
        clear hyt
        go_wp2_with (refine wpList_pushI rfl (.tmp 23) (.tmp 25) rfl w.heap.size (.slice ao m cap) (forK G t k) k _ rfl (hR.out.2.1.keep (Kp.alloc _ _ _)) rfl (by simp) HBK.out (by have := hR.out.2.2.size; simp; omega) ?_; intro v3 w3 hN3 hG3; have K3 := hid (show Kp w w3 [] from grown_own (hR.out.2.1.keep (Kp.alloc _ _ _)) hG3 (hR.out.2.2.trans (Kp.alloc _ _ _)) (Nat.le_refl _)); obtain ⟨a3, c3, hv3⟩ := hN3.slice; rw [← HS.out] at hv3 hN3; subst hv3; have N3 := hid hN3; clear hN3 hG3)
        go_roundw
        case rel => exact ⟨k + 1, _, a3, c3, by omega, rfl, by simp, hid ⟨rfl, N3.out, K3.out⟩⟩
        case measure => simp [intOf]; omega
      · have hq : (y == t) = false := by simp [hyt]
        have R2 := hid (show m = (forK G t (k + 1)).length ∧ Ns wr w.heap.size (.slice ao m cap) (forK G t (k + 1)) ∧ Kp w wr [] by
          rw [forK_step, if_neg (by rw [HY.out]; exact hyt)]
          exact hR.out)
        clear hyt hR
        go_wp2_with fail
        go_roundw
        case rel => exact ⟨k + 1, m, ao, cap, by omega, rfl, by simp, R2⟩
        case measure => simp [intOf]; omega
    · have hltI : ¬ (k : Int) < n := by omega
      have e : k = n := by omega
      have R2 := hid (show Ns wr w.heap.size (.slice ao m cap) (forK G t n) ∧ Kp w wr [] from ⟨e ▸ hR.out.2.1, hR.out.2.2⟩)
      clear hr hR e
      go_wp2_with fail
      go_ret
      exact ⟨⟨_, rfl, R2.out.1⟩, R2.out.2⟩
theorem enters36 : Enters Try.prog 36 := fun _ _ => by kernel_rfl
theorem ns_kc {lo hi D : Nat} {A B : World} {v : Value} {Z : List Int} (hK : Kc lo hi D A B) (h : Ns A lo v Z) (hg : ∀ g, v.ownBlock = some g → g < hi) : Ns B lo v Z := by
  refine ⟨h.1, ?_⟩
  rcases h.2 with q | ⟨g, cap, cur, rfl, h1, h2, h3⟩
  · exact .inl q
  · exact .inr ⟨g, cap, cur, rfl, h1, hK.old g _ _ _ h1 (hg g rfl) h2, h3⟩
/-- What For's function has caught. -/
structure Fi (w : World) (lo hi x : Nat) (Z : List Int) : Prop where
  ex : ∃ v, w.heap[x]? = some (.cells #[v] 35 (0, 0)) ∧ Ns w lo v Z ∧ ∀ g, v.ownBlock = some g → g < hi
theorem Fi.keep {w w' : World} {lo hi x : Nat} {Z : List Int} (h : Fi w lo hi x Z) (hk : Kp w w' []) : Fi w' lo hi x Z := by
  obtain ⟨v, h1, h2, h3⟩ := h.ex
  exact ⟨v, (hk.block x (lt_of_block h1) (by simp)).trans h1, h2.keep hk, h3⟩
set_option maxRecDepth 100000 in
set_option maxHeartbeats 2000000 in
theorem fi_seqs (n : Nat) (hn : 1 ≤ n) (lo hi D x : Nat) (Z : List Int) (hl : Z.length ≤ 100000) (w : World) (h : Fi w lo hi x Z) :
    Seqs n Try.prog 36 #[.pointer (some ⟨x, 0, none⟩)] encI (Kc lo hi D) Z w := by
  intro l J Jx W hW hJ hJx hY h0
  have hi2 := h.keep (Kp.of_below hW)
  obtain ⟨v, hx, hd, hv3⟩ := hi2.ex
  obtain ⟨ao, cap, hv⟩ := hd.slice
  obtain ⟨N, hN⟩ : ∃ N, Z.length = N := ⟨_, rfl⟩
  rw [hN] at hv hl
  subst hv
  have cx : W.cell? ⟨x, 0, none⟩ = some (.slice ao N cap) := by simp [World.cell?, hx]
  have HY := hid hY
  have H0 := hid h0
  have HN := hid hN
  have HJ := hid hJ
  have HD := hid hd
  have HV := hid hv3
  clear hW hJ hJx hY h0 hi2 hx hd hN h hv3
  show CallsIn Fence.wide n Try.prog 36 #[.func (.yield l) #[] #[], .pointer (some ⟨x, 0, none⟩)] W _
  refine callsIn_of_wp Try.func36 rfl trivial ?_ rfl
  simp only [Try.ntmps36, List.size_toArray, List.length_cons, List.length_nil, Nat.reduceAdd, Nat.reduceSub, Array.replicate_succ, Array.replicate_zero, List.push_toArray, List.append_toArray, List.nil_append, List.cons_append]
  gi_wp2
  gi_loopw [7] (fun v wr => ∃ i : Nat, i ≤ N ∧ v = .int .i64 i ∧ Hid (J (Z.take i) wr) ∧ Hid (Ns wr lo (.slice ao N cap) Z)) (fun v _ => N - (intOf v).toNat)
  case atStart => exact ⟨0, by omega, rfl, hid (by simpa using H0.out), HD⟩
  case round =>
    obtain ⟨i, hi2, rfl, hJs, hDs⟩ := hrel
    by_cases hlt : i < N
    · have hltI : (i : Int) < N := by omega
      have hil : i < Z.length := by have := HN.out; omega
      obtain ⟨x1, hx⟩ : ∃ x1, Z[i]! = x1 := ⟨_, rfl⟩
      obtain ⟨gg, rfl, c1, -⟩ := hDs.out.at hil hx
      have ht : Z.take (i + 1) = Z.take i ++ [x1] := by rw [take_get hil, hx]
      have HT := hid ht
      have hpx : Z.take i ++ [x1] <+: Z := by rw [← ht]; exact List.take_prefix _ _
      obtain ⟨fn, tmps, assign, body, hy, hRR⟩ := HY.out (Z.take i) x1 wr hJs.out hpx
      have HRR := hid hRR
      have HPX := hid hpx
      clear hRR hpx hx ht
      gi_wp2
      refine HRR.out.mono ?_
      rintro e W3 ⟨-, (⟨rfl, hJ3, hk3⟩ | ⟨rfl, hJx3⟩)⟩
      · have J3 := hid (show J (Z.take (i + 1)) W3 by rw [HT.out]; exact hJ3)
        have D3 := hid (ns_kc hk3 hDs.out HV.out)
        clear hJ3 hk3
        gi_wp2
        go_roundw
        case rel => exact ⟨i + 1, by omega, by simp, J3, D3⟩
        case measure => simp [intOf]; omega
      · have JX := hid hJx3
        clear hJx3
        gi_wp2
        refine bodyPost_ret (results_none rfl _ _ _) rfl ?_
        exact ⟨⟨_, rfl⟩, .inr ⟨_, HPX.out, JX.out⟩⟩
    · have hltI : ¬ (i : Int) < N := by omega
      have HE := hid (show J Z wr by
        have := hJs.out
        rw [List.take_of_length_le (by have := HN.out; omega)] at this
        exact this)
      gi_wp2
      go_end0
      exact ⟨⟨_, rfl⟩, .inl HE.out⟩
theorem fi_itr {lo : Nat} {W : World} {x : Nat} {Z : List Int} (hl : Z.length ≤ 100000) (h : Fi W lo W.heap.size x Z) : Itr lo W 36 #[.pointer (some ⟨x, 0, none⟩)] Z :=
  ⟨enters36, W.heap.size, Nat.le_refl _, fun W' hk n hn => fi_seqs n (by omega) lo _ _ x Z hl W' (h.keep hk)⟩
end Go.Proofs.Ytomdnppnabncaaa
