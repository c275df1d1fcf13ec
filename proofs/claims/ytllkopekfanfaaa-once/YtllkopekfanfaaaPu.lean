/- put, insert. -/
import Derived.BigQuiet
import Derived.Deep.RegionWith
import Derived.WalkMore
import Derived.Test.YtllkopekfanfaaaIt
namespace Go.Proofs.Ytllkopekfanfaaa
open Go.RowKit Go.Shelf Go.Lib Go.Sort Go.Maps
attribute [local go_sem] Oper.semAt_some

variable {w w' : World} {qb mb a b : Nat} {V : Value} {Ra Rb R : List Nat} {M : Qs}
/-- A message's box. -/
def Bm (w : World) (pb : Nat) (m : Int × Int) : Prop := w.heap[pb]? = some (.cells #[.int .i64 m.1, .int .i64 m.2] 34 (0, 0))
theorem Bm.keep {pb : Nat} {m : Int × Int} (h : Bm w pb m) {rs : List Nat} (hk : Kp w w' rs) (hr : pb ∉ rs) : Bm w' pb m := (hk.block pb (lt_of_block h) hr).trans h
theorem Bm.new (w : World) (m : Int × Int) : Bm (w.alloc (.cells #[.int .i64 m.1, .int .i64 m.2] 34)) w.heap.size m := heap_alloc_new w _
set_option maxRecDepth 100000 in
theorem stays_any (w : World) (pb : Nat) (m1 m2 o1 o2 : Int) (h : Bm w pb (m1, m2)) : Calls Try.prog 76 #[.agg #[.int .i64 o1, .int .i64 o2], .pointer (some ⟨pb, 0, none⟩)] w fun e w' => e = .returned (.bool (decide (m2 ≤ o2))) ∧ Kp w w' [] := by
  have c0 := cell_two0 h
  have c1 := cell_two1 h
  have hlt := lt_of_block h
  clear h
  by_cases hq : m2 ≤ o2
  all_goals (
    go_enter Try.func76, Try.ntmps76
    go_wp2
    go_ret
    exact ⟨by simp [hq], Kp.alloc _ _ _⟩)
/-- Where a loop that goes on as long as p stops. -/
theorem stops_at {p : Int × Int → Bool} {L : Ml} {k : Nat} (h : ∀ x ∈ L.take k, p x = true) (h' : ∀ x, L[k]? = some x → p x = false) : L.takeWhile p = L.take k ∧ L.dropWhile p = L.drop k := by
  have e : L = L.take k ++ L.drop k := (List.take_append_drop k L).symm
  have hd : (L.drop k).takeWhile p = [] ∧ (L.drop k).dropWhile p = L.drop k := by
    cases hq : L.drop k with
    | nil => exact ⟨rfl, rfl⟩
    | cons x r =>
      have hx : L[k]? = some x := by
        have := congrArg (fun l => l[0]?) hq
        simpa using this
      have := h' x hx
      rw [List.takeWhile_cons, List.dropWhile_cons, this]
      exact ⟨rfl, rfl⟩
  constructor
  · conv => lhs; rw [e, List.takeWhile_append_of_pos h, hd.1, List.append_nil]
  · conv => lhs; rw [e, List.dropWhile_append_of_pos h, hd.2]
theorem ins_call {z1 : World} {s k : Nat} {m : Int × Int} (h : Qi w qb mb a b V Ra Rb M) (hk : Kp w z1 []) (hB : Bm z1 s m) (hs : w.heap.size ≤ s) (hsp : M.L.takeWhile (fun o => decide (m.2 ≤ o.2)) = M.L.take k ∧ M.L.dropWhile (fun o => decide (m.2 ≤ o.2)) = M.L.drop k) (hkl : k ≤ M.L.length) (hr : (M.L.length : Int) < M.n) :
    Calls Try.prog 87 #[V, .int .i64 k, .slice (some ⟨s, 0, none⟩) 1 1] z1 fun e w' => ∃ ao' n' cap', e = .returned (.slice ao' n' cap') ∧ To w (w'.setCell ⟨qb, 1, none⟩ (.slice ao' n' cap')) qb (qrows qb mb V Ra Rb) { M with L := putM M.L m } ∧ w'.cell? ⟨qb, 1, none⟩ = some V ∧ w'.frozen? ⟨qb, 1, none⟩ = false := by
  have h1 := h.same hk
  have hn := h.hi
  have hv : ∀ g, V.ownBlock = some g → s ≠ g := fun g hg e => by
    have := h.lt g (by simp [hg])
    omega
  refine (insM_any z1 V (M.L.take k) (M.L.drop k) k s m (by rw [List.take_append_drop]; exact h1.ms) (by rw [List.length_take]; omega) hB hv (by rw [List.take_append_drop]; omega)).mono ?_
  rintro e w' ⟨V', rfl, hm, hk', hv'⟩
  have hq : qb ∉ V.ownBlock.toList := by
    simp only [Option.mem_toList]
    exact fun e => h.offq.2.2.2 qb e rfl
  have hb : w'.heap[qb]? = _ := (hk'.block qb (lt_of_block h1.hh) hq).trans h1.hh
  obtain ⟨ao', cap', rfl⟩ := hm.slice
  refine ⟨ao', _, cap', rfl, To.first hk (to_msgs h1 hk' ?_ hv' ?_), by simp [World.cell?, hb], by simp [World.frozen?, hb]⟩
  · unfold putM
    rw [hsp.1, hsp.2]
    exact hm
  · rw [putM_len]
    omega
set_option maxRecDepth 100000 in
set_option maxHeartbeats 4000000 in
/-- insert. -/
theorem insert_any (h : Qc w qb R M) (m1 m2 : Int) (pb : Nat) (hb : Bm w pb (m1, m2)) (hp : pb ∉ R) (hr : (M.L.length : Int) < M.n) :
    Calls Try.prog 75 #[.pointer (some ⟨qb, 0, none⟩), .agg #[.int .i64 m1, .int .i64 m2], .func (.func 76) #[] #[.pointer (some ⟨pb, 0, none⟩)]] w fun e w' => e = .returned (.tuple #[]) ∧ To w w' qb R { M with L := putM M.L (m1, m2) } := by
  obtain ⟨mb, a, b, V, Ra, Rb, rfl, h⟩ := h
  have H := hid h
  have HB := hid hb
  have hlen : M.L.length ≤ 31 := by have := h.hi; omega
  obtain ⟨ao, cap, rfl⟩ := h.ms.slice
  obtain ⟨N, hN⟩ : ∃ N, M.L.length = N := ⟨_, rfl⟩
  have HN := hid (show M.L.length = N ∧ (N : Int) < M.n ∧ N ≤ 31 from ⟨hN, by omega, by omega⟩)
  have hlt := lt_of_block hb
  have c1 := h.c1
  have hqlt := lt_of_block h.hh
  rw [hN] at c1
  have hn31 : N ≤ 31 := by omega
  clear h hb hp hr hN hlen
  go_enter Try.func75, Try.ntmps75
  go_wp2_with fail
  go_step3
  go_wp2_with fail
  go_step3
  go_wp2_with fail
  have k0 := Kp.alloc w (.cells #[.int .i64 m1, .int .i64 m2] 34) []
  have b0 := Bm.new w (m1, m2)
  obtain ⟨W0, hW0⟩ : ∃ W0, w.alloc (.cells #[.int .i64 m1, .int .i64 m2] 34) = W0 := ⟨_, rfl⟩
  obtain ⟨x, hx⟩ : ∃ x, w.heap.size = x := ⟨_, rfl⟩
  simp only [hW0] at k0 b0 ⊢
  rw [hx] at b0 ⊢
  have HX := hid (And.intro hx (And.intro k0 b0))
  clear hx k0 b0 hW0
  go_loopw [6] (fun vi wr => ∃ k : Nat, k ≤ N ∧ vi = .int .i64 k ∧ Hid ((∀ y ∈ M.L.take k, decide (m2 ≤ y.2) = true) ∧ Kp w wr [] ∧ Bm wr x (m1, m2))) (fun vi _ => N - (intOf vi).toNat)
  case atStart => exact ⟨0, by omega, rfl, hid ⟨by simp, HX.out.2.1, HX.out.2.2⟩⟩
  case round =>
    obtain ⟨k, hk, rfl, hR⟩ := hrel
    have d1 := (H.out.same hR.out.2.1).c1
    rw [HN.out.1] at d1
    have d0 := cell_two0 hR.out.2.2
    have d2 := cell_two1 hR.out.2.2
    have hxlt := lt_of_block hR.out.2.2
    by_cases hlt : k < N
    · have hltI : (k : Int) < N := by omega
      have hk1 : k < M.L.length := by have := HN.out.1; omega
      have hx0 := List.getElem?_eq_getElem hk1
      obtain ⟨y1, y2, hy⟩ : ∃ y1 y2, M.L[k] = (y1, y2) := ⟨M.L[k].1, M.L[k].2, rfl⟩
      rw [hy] at hx0
      have hms := (H.out.same hR.out.2.1).ms
      rw [show M.L.length = N from HN.out.1] at hms
      obtain ⟨g1, rfl, e1, e2⟩ := hms.at hx0
      have HS := hid (fun (z : World) (hz : Kp wr z []) => stays_any z pb m1 m2 y1 y2 (HB.out.keep (hR.out.2.1.trans hz) (by simp)))
      have HY := hid hx0
      clear hms hy hx0 hk1
      by_cases hq : m2 ≤ y2
      · simp only [hq, decide_true] at HS
        go_wp2_with fail
        refine (HS.out _ (Kp.refl _ _)).mono ?_
        rintro e w2 ⟨rfl, hk2⟩
        have R2 := hid (show (∀ y ∈ M.L.take (k + 1), decide (m2 ≤ y.2) = true) ∧ Kp w w2 [] ∧ Bm w2 x (m1, m2) from ⟨fun y hy => by
          rw [take_nx HY.out] at hy
          rcases List.mem_append.1 hy with hy | hy
          · exact hR.out.1 y hy
          · simp at hy
            subst hy
            simpa using hq, hR.out.2.1.trans hk2, hR.out.2.2.keep hk2 (by simp)⟩)
        clear hk2 hR
        go_wp2_with fail
        go_roundw
        case rel => exact ⟨k + 1, by omega, by simp, R2⟩
        case measure => simp [intOf]; omega
      · have HT := hid (show ∀ y, M.L[k]? = some y → decide (m2 ≤ y.2) = false from fun y hy => by
          rw [HY.out] at hy
          have := (Option.some.inj hy).symm
          subst this
          simpa using hq)
        have hq' : decide (m2 ≤ y2) = false := by simpa using hq
        rw [hq'] at HS
        go_wp2_with fail
        refine (HS.out _ (Kp.refl _ _)).mono ?_
        rintro e w2 ⟨rfl, hk2⟩
        have hz := hR.out.2.1.trans hk2
        have hbm := hR.out.2.2.keep hk2 (by simp)
        have q1 := (H.out.same hz).c1
        rw [HN.out.1] at q1
        have ql := lt_of_block (H.out.same hz).hh
        have q0 := cell_two0 hbm
        have q2 := cell_two1 hbm
        have HI := fun (z1 : World) (hz1 : Kp w2 z1 []) (s : Nat) (hB : Bm z1 s (m1, m2)) (hs : w.heap.size ≤ s) => ins_call H.out (hz.trans hz1) hB hs (stops_at (p := fun o : Int × Int => decide (m2 ≤ o.2)) (L := M.L) (k := k) hR.out.1 (HT.out)) (by have := HN.out.1; omega) (by have := HN.out; omega)
        rw [HN.out.1] at HI
        have HI := hid HI
        have HZ := hid (And.intro hz hbm)
        clear hk2 hq' hz hbm HS HT HY
        go_wp2_with fail
        go_region_with (go_at_call 87; refine (HI.out _ (by exact (Kp.alloc _ _ _).trans (Kp.drew _ _)) _ (by exact Bm.new _ (m1, m2)) (by exact HZ.out.1.size)).mono ?_; rintro e w3 ⟨ao', n', cap', rfl, hT, p1, p2⟩; have HT3 := hid hT; clear hT)
        all_goals (
          rw [Exit.noGoto_normal]
          go_end0
          exact ⟨rfl, by rw [HN.out.1]; exact HT3.out⟩)
    · have hltI : ¬ (k : Int) < N := by omega
      have hz := hR.out.2.1
      have hbm := hR.out.2.2
      have q1 := (H.out.same hz).c1
      rw [HN.out.1] at q1
      have ql := lt_of_block (H.out.same hz).hh
      have q0 := cell_two0 hbm
      have q2 := cell_two1 hbm
      have HI := fun (z1 : World) (hz1 : Kp wr z1 []) (s : Nat) (hB : Bm z1 s (m1, m2)) (hs : w.heap.size ≤ s) => ins_call H.out (hz.trans hz1) hB hs (stops_at (p := fun o : Int × Int => decide (m2 ≤ o.2)) (L := M.L) (k := k) hR.out.1 (fun y hy => by rw [List.getElem?_eq_none (by have := HN.out.1; omega)] at hy; cases hy)) (by have := HN.out.1; omega) (by have := HN.out; omega)
      rw [HN.out.1] at HI
      have HI := hid HI
      have HZ := hid (And.intro hz hbm)
      clear hz hbm
      go_wp2_with fail
      go_region_with (go_at_call 87; refine (HI.out _ (by exact (Kp.alloc _ _ _).trans (Kp.drew _ _)) _ (by exact Bm.new _ (m1, m2)) (by exact HZ.out.1.size)).mono ?_; rintro e w3 ⟨ao', n', cap', rfl, hT, p1, p2⟩; have HT3 := hid hT; clear hT)
      all_goals (
        rw [Exit.noGoto_normal]
        go_end0
        exact ⟨rfl, by rw [HN.out.1]; exact HT3.out⟩)
set_option maxRecDepth 100000 in
/-- put. -/
theorem put_any' (h : Qc w qb R M) (m1 m2 : Int) (hr : (M.L.length : Int) < M.n) : Calls Try.prog 49 #[.pointer (some ⟨qb, 0, none⟩), .agg #[.int .i64 m1, .int .i64 m2]] w fun e w' => e = .returned (.tuple #[]) ∧ To w w' qb R { M with L := putM M.L (m1, m2) } := by
  have k0 := Kp.alloc w (.cells #[.int .i64 m1, .int .i64 m2] 34) []
  have HI := hid (insert_any (h.same k0) m1 m2 w.heap.size (Bm.new w (m1, m2)) (fun hm => by have := h.lt _ hm; omega) hr)
  have HF := hid (fun (z : World) (hT : To (w.alloc (.cells #[.int .i64 m1, .int .i64 m2] 34)) z qb R { M with L := putM M.L (m1, m2) }) => To.first k0 hT)
  clear h hr k0
  go_enter Try.func49, Try.ntmps49
  go_wp2_with fail
  refine HI.out.mono ?_
  rintro e w2 ⟨rfl, hT⟩
  have HT := hid (HF.out _ hT)
  clear hT
  go_wp2
  go_end0
  exact ⟨rfl, HT.out⟩
end Go.Proofs.Ytllkopekfanfaaa
