/- inOrder, All and its function. -/
import Derived.Test.YtllkopekfanfaaaChange
import Derived.Test.YtllkopekfanfaaaRange
namespace Go.Proofs.Ytllkopekfanfaaa
open Go.RowKit Go.Shelf Go.Lib Go.Sort Go.Maps
attribute [local go_sem] Oper.semAt_some

set_option maxRecDepth 100000 in
set_option maxHeartbeats 1000000 in
theorem order_of (w : World) (p : Option Addr) (L : List Dl) (h : Vw w p L) :
    Calls Try.prog 89 #[.pointer p] w fun e w' => ∃ v, e = .returned v ∧ Dr w' w.heap.size v (ordL L) ∧ Kp w w' [] := by
  have HZ := hid (fun Z (hZ : St L Z) => ord_unique h.ok hZ)
  have HE := hid (show L = [] → ordL L = [] from fun e => by subst e; rw [ordL_eq]; rfl)
  obtain ⟨ZZ, hZZ⟩ : ∃ ZZ, ordL L = ZZ := ⟨_, rfl⟩
  rw [hZZ] at HZ HE ⊢
  clear hZZ
  rcases h with ⟨wb, pb, V, rfl, h⟩ | ⟨h, rfl⟩
  · have H := hid h
    clear HE
    obtain ⟨ao, cap, hV⟩ := h.ns.slice
    rw [List.length_map] at hV
    obtain ⟨N, hN⟩ : ∃ N, L.length = N := ⟨_, rfl⟩
    rw [hN] at hV
    subst hV
    have hNl : N ≤ 16 := by have := h.ok.len; omega
    have HN := hid hN
    have hc0 := cell_two0 h.hh
    have hc1 := cell_two1 h.hh
    clear h hN
    go_enter Try.func89, Try.ntmps89
    go_wp2_with (go_at_call 68; refine (zero_no w wb pb _ L H.out).mono ?_; rintro e w1 ⟨rfl, rfl⟩)
    clear hc0 hc1
    go_loopw [3, 13] (fun vd vi wr => ∃ (i m cp : Nat) (a1 : Option Addr), i ≤ N ∧ vi = .int .i64 i ∧ vd = .slice a1 m cp ∧ Hid (Dr wr w1.heap.size (.slice a1 m cp) (L.take i) ∧ Kp w1 wr [])) (fun _ vi _ => N - (intOf vi).toNat)
    case atStart => exact ⟨0, 0, 0, none, by omega, rfl, rfl, hid ⟨by simpa using Dr.nil _ _, Kp.refl _ _⟩⟩
    case round =>
      obtain ⟨i, m1, cap1, a1, hi, rfl, rfl, hR⟩ := hrel
      by_cases hlt : i < N
      · have hltI : (i : Int) < N := by omega
        have hil : i < L.length := by have := HN.out; omega
        obtain ⟨x1, x2, hx⟩ : ∃ x1 x2, L[i]! = (x1, x2) := ⟨L[i]!.1, L[i]!.2, rfl⟩
        have HW := hid (H.out.same hR.out.2)
        have hmx : (x1, x2) ∈ L := by rw [← hx, getElem!_pos L i hil]; exact List.getElem_mem hil
        have hk1 : (L.map (·.1))[i]! = x1 := by
          rw [getElem!_pos _ i (by simpa using hil), List.getElem_map, ← getElem!_pos L i hil, hx]
        obtain ⟨g, hao, ci, -⟩ := HW.out.ns.at (k := i) (by simpa using hil) hk1
        subst hao
        have hrg := (H.out.ok.rng _ hmx).1
        have hlk := HW.out.look1 (k := x1) (by omega) (by omega)
        rw [get_of_mem H.out.ok.one hmx] at hlk
        have c0 := cell_two0 HW.out.hh
        have kk := Kp.alloc wr (.cells #[.int .i64 x1, .int .i64 x2] 103) []
        have R1 := hid (And.intro (hR.out.1.keep kk) (hR.out.2.trans kk))
        have HX := hid hx
        have HB := hid (show (L.take i).length ≤ 1000000 by simp; omega)
        clear kk hx hR hmx hk1 hrg
        go_wp2_with (refine wpList_joinD rfl (.tmp 17) (.tmp 26) rfl w1.heap.size wr.heap.size (.slice a1 m1 cap1) _ (L.take i) [(x1, x2)] rfl R1.out.1 rfl (Dr.one wr x1 x2) HB.out (by simp) R1.out.2.size ?_; intro v3 w3 hN3 hG3; obtain ⟨a3, c3, hv3⟩ := hN3.slice; have K3 := hid (And.intro hN3 (grown_kp R1.out.1 hG3 R1.out.2 (Nat.le_refl _))); obtain ⟨m3, hm3⟩ : ∃ m3, (L.take i ++ [(x1, x2)]).length = m3 := ⟨_, rfl⟩; rw [hm3] at hv3; subst hv3; clear hN3 hG3 hm3)
        go_roundw
        case rel =>
          refine ⟨i + 1, m3, c3, a3, by omega, by simp, rfl, hid ?_⟩
          rw [take_get hil, HX.out]
          exact K3.out
        case measure => simp [intOf]; omega
      · have hltI : ¬ (i : Int) < N := by omega
        have HF := hid (show Dr wr w1.heap.size (.slice a1 m1 cap1) L ∧ Kp w1 wr [] by
          have h1 := hR.out
          rw [List.take_of_length_le (by have := HN.out; omega)] at h1
          exact h1)
        clear hR
        go_wp2_with fail
        refine (order_any _ _ _ _ HF.out.1 (by have := HN.out; omega)).mono ?_
        rintro e w3 ⟨rfl, ⟨Z, hZ, hDZ⟩, hKZ⟩
        have hzz := HZ.out Z hZ
        subst hzz
        have H3 := hid (show Dr w3 w1.heap.size (.slice a1 m1 cap1) Z ∧ Kp w1 w3 [] from ⟨hDZ, HF.out.2.past hKZ (by
          intro g hg hl
          have := (owns_block HF.out.1 (by simpa using hg)).1
          omega)⟩)
        clear hZ hDZ hKZ
        go_wp2
        go_ret
        exact ⟨_, rfl, H3.out⟩
  · have H := hid h
    have hzz := HE.out rfl
    subst hzz
    clear h HZ HE
    go_enter Try.func89, Try.ntmps89
    go_wp2_with (go_at_call 68; refine (zero_yes w p H.out).mono ?_; rintro e w1 ⟨rfl, rfl⟩)
    go_ret
    exact ⟨_, rfl, Dr.nil _ _, Kp.refl _ _⟩

abbrev itv (x : Nat) : Value := .func (.func 88) #[] #[.pointer (some ⟨x, 0, none⟩)]
set_option maxRecDepth 100000 in
theorem all_any (w : World) (p : Option Addr) : Calls Try.prog 78 #[.pointer p] w fun e w' => e = .returned (itv w.heap.size) ∧ w' = w.alloc (.cells #[.pointer p] 62) := by
  go_enter Try.func78, Try.ntmps78
  go_wp2
  go_ret
  exact ⟨rfl, rfl⟩
/-- An iterator: what it has caught, and what that shows. -/
structure It (w : World) (x : Nat) (L : List Dl) : Prop where
  ex : ∃ p, w.heap[x]? = some (.cells #[.pointer p] 62 (0, 0)) ∧ Vw w p L
theorem It.keep {w w' : World} {x : Nat} {L : List Dl} (h : It w x L) (hk : Kp w w' []) : It w' x L := by
  obtain ⟨p, h1, h2⟩ := h.ex
  exact ⟨p, (hk.block x (lt_of_block h1) (by simp)).trans h1, h2.keep hk⟩
theorem It.new {w : World} {p : Option Addr} {L : List Dl} (h : Vw w p L) : It (w.alloc (.cells #[.pointer p] 62)) w.heap.size L := ⟨p, heap_alloc_new w _, h.keep (Kp.alloc _ _ _)⟩

theorem dr_kc {A B : World} {base : Nat} {v : Value} {Z : List Dl} (hK : Kc base A B) (h : Dr A base v Z) : Dr B base v Z := by
  refine ⟨h.1, ?_⟩
  rcases h.2 with q | ⟨g, cap, cur, rfl, h1, h2, h3⟩
  · exact .inl q
  · exact .inr ⟨g, cap, cur, rfl, h1, hK.same g _ _ h1 h2, h3⟩
abbrev encW (d : Dl) : Array Value := #[dv d]
set_option maxRecDepth 100000 in
set_option maxHeartbeats 2000000 in
/-- All's function: those that wait when it begins, in the order. -/
theorem it_seqs (n : Nat) (hn : 1 ≤ n) (x : Nat) (L : List Dl) (w : World) (h : It w x L) :
    Seqs n Try.prog 88 #[.pointer (some ⟨x, 0, none⟩)] encW (Kc w.heap.size) (ordL L) w := by
  intro l J Jx W hW hJ hJx hY h0
  have hsz := hW.size
  obtain ⟨p, hx, hv⟩ := (h.keep (Kp.of_below hW)).ex
  have cx : W.cell? ⟨x, 0, none⟩ = some (.pointer p) := by simp [World.cell?, hx]
  have hlen : (ordL L).length ≤ 16 := by rw [ord_len hv.ok]; exact hv.ok.len
  have cB := (callsIn_wide (n := n - 1)).2 (order_of W p L hv)
  obtain ⟨Z, hZ⟩ : ∃ Z, ordL L = Z := ⟨_, rfl⟩
  rw [hZ] at hY cB hlen ⊢
  have HY := hid hY
  have H0 := hid h0
  have HJ := hid hJ
  have hf49 : Fence.wide.fn 89 := trivial
  clear hW hJ hJx hY h0 hx hv h hZ
  show CallsIn Fence.wide n Try.prog 88 #[.func (.yield l) #[] #[], .pointer (some ⟨x, 0, none⟩)] W _
  refine callsIn_of_wp Try.func88 rfl trivial ?_ rfl
  simp only [Try.ntmps88, List.size_toArray, List.length_cons, List.length_nil, Nat.reduceAdd, Nat.reduceSub, Array.replicate_succ, Array.replicate_zero, List.push_toArray, List.append_toArray, List.nil_append, List.cons_append]
  gi_wp2_with (gi_at_call 89; refine cB.mono ?_; rintro e w1 ⟨v, rfl, hd, hk⟩; obtain ⟨ao, cap, hv⟩ := hd.slice; obtain ⟨N, hN⟩ : ∃ N, Z.length = N := ⟨_, rfl⟩; rw [hN] at hv hlen; subst hv; have HD := hid (hd.low hsz); have HK := hid hk; have HN := hid hN; have HJ1 := hid (show J [] w1 from HJ.out [] W w1 none H0.out ⟨hk.os, hk.tape, hk.output, hk.size, fun k hk' _ => hk.block k hk' (by simp)⟩ (fun r hr => by cases hr)); clear hd hk hN)
  gi_loopw [8] (fun v wr => ∃ i : Nat, i ≤ N ∧ v = .int .i64 i ∧ Hid (J (Z.take i) wr) ∧ Hid (Dr wr w.heap.size (.slice ao N cap) Z)) (fun v _ => N - (intOf v).toNat)
  case atStart => exact ⟨0, by omega, rfl, hid (by simpa using HJ1.out), HD⟩
  case round =>
    obtain ⟨i, hi, rfl, hJs, hDs⟩ := hrel
    by_cases hlt : i < N
    · have hltI : (i : Int) < N := by omega
      have hil : i < Z.length := by have := HN.out; omega
      obtain ⟨x1, x2, hx⟩ : ∃ x1 x2, Z[i]! = (x1, x2) := ⟨Z[i]!.1, Z[i]!.2, rfl⟩
      obtain ⟨gg, rfl, c1, c2, -, -⟩ := hDs.out.at hil hx
      have hlg : gg < wr.heap.size := World.block_lt_of_cell? wr _ c1
      have ht : Z.take (i + 1) = Z.take i ++ [(x1, x2)] := by rw [take_get hil, hx]
      have HT := hid ht
      have ka := hid (Kp.alloc wr (.cells #[.int .i64 x1, .int .i64 x2] 103) [])
      have hpx : Z.take i ++ [(x1, x2)] <+: Z := by rw [← ht]; exact List.take_prefix _ _
      obtain ⟨fn, tmps, assign, body, hy, hRR⟩ := HY.out (Z.take i) (x1, x2) (wr.alloc (.cells #[.int .i64 x1, .int .i64 x2] 103)) (HJ.out.alloc _ hJs.out) hpx
      have HRR := hid hRR
      have HPX := hid hpx
      clear hRR hpx hx ht
      gi_wp2
      refine HRR.out.mono ?_
      rintro e W3 ⟨-, (⟨rfl, hJ3, hk3⟩ | ⟨rfl, hJx3⟩)⟩
      · have J3 := hid (show J (Z.take (i + 1)) W3 by rw [HT.out]; exact hJ3)
        have D3 := hid (dr_kc hk3 (hDs.out.keep ka.out))
        clear hJ3 hk3
        gi_wp2
        go_roundw
        case rel => exact ⟨i + 1, by omega, by simp, J3, D3⟩
        case measure => simp [intOf]; omega
      · have JX := hid hJx3
        clear hJx3
        gi_wp2
        refine bodyPost_ret (results_none rfl _ _ _) rfl ?_
        exact ⟨⟨_, rfl⟩, .inr ⟨_, HPX.out, JX.out⟩⟩
    · have hltI : ¬ (i : Int) < N := by omega
      have HE := hid (show J Z wr by
        have := hJs.out
        rw [List.take_of_length_le (by have := HN.out; omega)] at this
        exact this)
      gi_wp2
      go_end0
      exact ⟨⟨_, rfl⟩, .inl HE.out⟩
end Go.Proofs.Ytllkopekfanfaaa
