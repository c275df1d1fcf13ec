/- All, and its function. -/
import Derived.LoopIn
import Derived.Test.YtllkopekfanfaaaQl
import Derived.Test.YtllkopekfanfaaaRange
import Derived.Test.YtllkopekfanfaaaFirst
namespace Go.Proofs.Ytllkopekfanfaaa
open Go.RowKit Go.Shelf Go.Lib Go.Sort Go.Maps
attribute [local go_sem] Oper.semAt_some

/-- What a round keeps: messages that lie from a block on. -/
structure KcM (D : Nat) (W W' : World) : Prop where
  size : W.heap.size ≤ W'.heap.size
  same : ∀ k c f, D ≤ k → W.heap[k]? = some (.cells c 34 f) → W'.heap[k]? = some (.cells c 34 f)
theorem KcM.refl (D : Nat) (W : World) : KcM D W W := ⟨Nat.le_refl _, fun _ _ _ _ h => h⟩
theorem KcM.trans {D : Nat} {A B C : World} (h : KcM D A B) (h' : KcM D B C) : KcM D A C := ⟨Nat.le_trans h.size h'.size, fun k c f hk ha => h'.same k c f hk (h.same k c f hk ha)⟩
theorem KcM.of_kp {D : Nat} {A B : World} {rows : List Nat} (h : Kp A B rows) (hr : ∀ k ∈ rows, ∀ c f, A.heap[k]? ≠ some (.cells c 34 f)) : KcM D A B :=
  ⟨h.size, fun k c f _ ha => (h.block k (lt_of_block ha) (fun hm => hr k hm c f ha)).trans ha⟩
theorem kcM_alloc (D : Nat) (W : World) (o : Obj) : KcM D W (W.alloc o) := ⟨by simp, fun k c f _ h => (Below.heap_alloc _ _ _ (lt_of_block h)).trans h⟩
theorem kcM_put (D : Nat) (W : World) (l : Nat) (o o' : Obj) (h : W.heap[l]? = some o) (hc : o.isCells = false) : KcM D W (W.putObj l o') := by
  refine ⟨by simp [World.putObj], fun k c f _ hk => ?_⟩
  have hne : k ≠ l := by
    rintro rfl
    rw [h] at hk
    cases hk
    simp [Obj.isCells] at hc
  exact (World.putObj_heap_other hne).trans hk
theorem mr_kc {A B : World} {base : Nat} {v : Value} {Z : Ml} (hK : KcM base A B) (h : Mr A base v Z) : Mr B base v Z := by
  refine ⟨h.1, ?_⟩
  rcases h.2 with q | ⟨g, cap, cur, rfl, h1, h2, h3⟩
  · exact .inl q
  · exact .inr ⟨g, cap, cur, rfl, h1, hK.same g _ _ h1 h2, h3⟩
/-- A queue that may not be there. -/
def Qv (w : World) (p : Option Addr) (Z : Ml) : Prop := (∃ qb R M, p = some ⟨qb, 0, none⟩ ∧ Qc w qb R M ∧ M.L = Z) ∨ (Zq w p ∧ Z = [])
theorem Qv.keep {w w' : World} {p : Option Addr} {Z : Ml} (h : Qv w p Z) (hk : Kp w w' []) : Qv w' p Z := by
  rcases h with ⟨qb, R, M, e, h, h'⟩ | ⟨h, e⟩
  · exact .inl ⟨qb, R, M, e, h.same hk, h'⟩
  · exact .inr ⟨h.keep hk, e⟩
abbrev itm (x : Nat) : Value := .func (.func 67) #[] #[.pointer (some ⟨x, 0, none⟩)]
set_option maxRecDepth 100000 in
theorem allM_any (w : World) (p : Option Addr) : Calls Try.prog 38 #[.pointer p] w fun e w' => e = .returned (itm w.heap.size) ∧ w' = w.alloc (.cells #[.pointer p] 23) := by
  go_enter Try.func38, Try.ntmps38
  go_wp2
  go_ret
  exact ⟨rfl, rfl⟩
/-- An iterator: what it has caught, and what that shows. -/
structure Itq (w : World) (x : Nat) (Z : Ml) : Prop where
  ex : ∃ p, w.heap[x]? = some (.cells #[.pointer p] 23 (0, 0)) ∧ Qv w p Z
theorem Itq.keep {w w' : World} {x : Nat} {Z : Ml} (h : Itq w x Z) (hk : Kp w w' []) : Itq w' x Z := by
  obtain ⟨p, h1, h2⟩ := h.ex
  exact ⟨p, (hk.block x (lt_of_block h1) (by simp)).trans h1, h2.keep hk⟩
theorem Itq.new {w : World} {p : Option Addr} {Z : Ml} (h : Qv w p Z) : Itq (w.alloc (.cells #[.pointer p] 23)) w.heap.size Z := ⟨p, heap_alloc_new w _, h.keep (Kp.alloc _ _ _)⟩
abbrev encV (d : Int × Int) : Array Value := #[mv d]
set_option maxRecDepth 100000 in
set_option maxHeartbeats 2000000 in
/-- All's function: the messages as they are when it begins. -/
theorem itM_seqs (n : Nat) (hn : 1 ≤ n) (x : Nat) (Z : Ml) (w : World) (h : Itq w x Z) :
    Seqs n Try.prog 67 #[.pointer (some ⟨x, 0, none⟩)] encV (KcM w.heap.size) Z w := by
  intro l J Jx W hW hJ hJx hY h0
  have hsz := hW.size
  obtain ⟨p, hx, hv⟩ := (h.keep (Kp.of_below hW)).ex
  have cx : W.cell? ⟨x, 0, none⟩ = some (.pointer p) := by simp [World.cell?, hx]
  rcases hv with ⟨qb, R, M, rfl, hq, hZ⟩ | ⟨hz, hZ⟩
  · have HZr := (callsIn_wide (n := n - 1)).2 (zeroQ_no W qb R M hq)
    obtain ⟨mb, a, b, V, Ra, Rb, rfl, hq⟩ := hq
    have c1 := hq.c1
    have hlen : M.L.length ≤ 32 := by have := hq.len; have := hq.hi; omega
    have cB := (callsIn_wide (n := n - 1)).2 (clm_any W V M.L hq.ms (by omega))
    rw [hZ] at hlen cB
    have HY := hid hY
    have H0 := hid h0
    have HJ := hid hJ
    have hf1 : Fence.wide.fn 39 := trivial
    have hf2 : Fence.wide.fn 56 := trivial
    clear hW hJ hJx hY h0 hx hq h hZ
    show CallsIn Fence.wide n Try.prog 67 #[.func (.yield l) #[] #[], .pointer (some ⟨x, 0, none⟩)] W _
    refine callsIn_of_wp Try.func67 rfl trivial ?_ rfl
    simp only [Try.ntmps67, List.size_toArray, List.length_cons, List.length_nil, Nat.reduceAdd, Nat.reduceSub, Array.replicate_succ, Array.replicate_zero, List.push_toArray, List.append_toArray, List.nil_append, List.cons_append]
    gi_wp2_with (first | (gi_at_call 39; refine HZr.mono ?_; rintro e w1 ⟨rfl, hw⟩; obtain rfl := hw.symm) | (gi_at_call 56; refine cB.mono ?_; rintro e w1 ⟨v, rfl, hd, hk⟩; obtain ⟨ao, cap, hv⟩ := hd.slice; obtain ⟨N, hN⟩ : ∃ N, Z.length = N := ⟨_, rfl⟩; rw [hN] at hv hlen; subst hv; have HD := hid (hd.low hsz); have HK := hid hk; have HN := hid hN; have HJ1 := hid (show J [] w1 from HJ.out [] W w1 none H0.out ⟨hk.os, hk.tape, hk.output, hk.size, fun k hk' _ => hk.block k hk' (by simp)⟩ (fun r hr => by cases hr)); clear hd hk hN))
    gi_loopw [13] (fun v wr => ∃ i : Nat, i ≤ N ∧ v = .int .i64 i ∧ Hid (J (Z.take i) wr) ∧ Hid (Mr wr w.heap.size (.slice ao N cap) Z)) (fun v _ => N - (intOf v).toNat)
    case atStart => exact ⟨0, by omega, rfl, hid (by simpa using HJ1.out), HD⟩
    case round =>
      obtain ⟨i, hi, rfl, hJs, hDs⟩ := hrel
      by_cases hlt : i < N
      · have hltI : (i : Int) < N := by omega
        have hil : i < Z.length := by have := HN.out; omega
        have hx0 := List.getElem?_eq_getElem hil
        obtain ⟨x1, x2, hx⟩ : ∃ x1 x2, Z[i] = (x1, x2) := ⟨Z[i].1, Z[i].2, rfl⟩
        rw [hx] at hx0
        obtain ⟨gg, rfl, c1, c2⟩ := hDs.out.at hx0
        have hlg : gg < wr.heap.size := World.block_lt_of_cell? wr _ c1
        have ht : Z.take (i + 1) = Z.take i ++ [(x1, x2)] := take_nx hx0
        have HT := hid ht
        have ka := hid (Kp.alloc wr (.cells #[.int .i64 x1, .int .i64 x2] 34) [])
        have hpx : Z.take i ++ [(x1, x2)] <+: Z := by rw [← ht]; exact List.take_prefix _ _
        obtain ⟨fn, tmps, assign, body, hy, hRR⟩ := HY.out (Z.take i) (x1, x2) (wr.alloc (.cells #[.int .i64 x1, .int .i64 x2] 34)) (HJ.out.alloc _ hJs.out) hpx
        have hy : (Instr.yield l #[.agg #[.int .i64 x1, .int .i64 x2]]).run Try.prog (wr.alloc (.cells #[.int .i64 x1, .int .i64 x2] 34)) = .ok (.round l fn tmps assign body) (wr.alloc (.cells #[.int .i64 x1, .int .i64 x2] 34)) := hy
        have HRR := hid hRR
        have HPX := hid hpx
        clear hRR hpx hx hx0 ht
        gi_wp2
        refine HRR.out.mono ?_
        rintro e W3 ⟨-, (⟨rfl, hJ3, hk3⟩ | ⟨rfl, hJx3⟩)⟩
        · have J3 := hid (show J (Z.take (i + 1)) W3 by rw [HT.out]; exact hJ3)
          have D3 := hid (mr_kc hk3 (hDs.out.keep ka.out))
          clear hJ3 hk3
          gi_wp2
          go_roundw
          case rel => exact ⟨i + 1, by omega, by simp, J3, D3⟩
          case measure => simp [intOf]; omega
        · have JX := hid hJx3
          clear hJx3
          gi_wp2
          refine bodyPost_ret (results_none rfl _ _ _) rfl ?_
          exact ⟨⟨_, rfl⟩, .inr ⟨_, HPX.out, JX.out⟩⟩
      · have hltI : ¬ (i : Int) < N := by omega
        have HE := hid (show J Z wr by
          have := hJs.out
          rw [List.take_of_length_le (by have := HN.out; omega)] at this
          exact this)
        gi_wp2
        go_end0
        exact ⟨⟨_, rfl⟩, .inl HE.out⟩
  · subst hZ
    have HZr := (callsIn_wide (n := n - 1)).2 (zeroQ_yes W p hz)
    have H0 := hid h0
    have hf1 : Fence.wide.fn 39 := trivial
    clear hW hJ hJx hY h0 hx hz h
    show CallsIn Fence.wide n Try.prog 67 #[.func (.yield l) #[] #[], .pointer (some ⟨x, 0, none⟩)] W _
    refine callsIn_of_wp Try.func67 rfl trivial ?_ rfl
    simp only [Try.ntmps67, List.size_toArray, List.length_cons, List.length_nil, Nat.reduceAdd, Nat.reduceSub, Array.replicate_succ, Array.replicate_zero, List.push_toArray, List.append_toArray, List.nil_append, List.cons_append]
    gi_wp2_with (gi_at_call 39; refine HZr.mono ?_; rintro e w1 ⟨rfl, hw⟩; obtain rfl := hw.symm)
    refine bodyPost_ret (results_none rfl _ _ _) rfl ?_
    exact ⟨⟨_, rfl⟩, .inl H0.out⟩
end Go.Proofs.Ytllkopekfanfaaa
