/- All, and its function. -/
import Derived.LoopIn
import Derived.Test.YtoenipaccnpihaaRa
import Derived.Test.YtoenipaccnpihaaCy
import Derived.Test.YtoenipaccnpihaaRange
namespace Go.Proofs.Ytoenipaccnpihaa
open Go.RowKit Go.Shelf Go.Sort Go.Maps
open Go.Lib hiding intOf
attribute [local go_sem] Oper.semAt_some

theorem has_least {P : Nat → Prop} : ∀ n, (∃ k, k ≤ n ∧ P k) → ∃ k, P k ∧ ∀ j, P j → k ≤ j
  | 0, ⟨k, h, hp⟩ => ⟨k, hp, fun j _ => by omega⟩
  | n + 1, ⟨k, h, hp⟩ => by
    by_cases hc : ∃ k, k ≤ n ∧ P k
    · exact has_least n hc
    · exact ⟨k, hp, fun j hj => by
        by_cases hjn : j ≤ n
        · exact absurd ⟨j, hjn, hj⟩ hc
        · omega⟩
/-- The least number that there is. -/
noncomputable def least (P : Nat → Prop) : Nat := by
  classical exact if h : ∃ k, P k ∧ ∀ j, P j → k ≤ j then Classical.choose h else 0
theorem least_yes {P : Nat → Prop} (h : ∃ k, P k) : P (least P) ∧ ∀ j, P j → least P ≤ j := by
  obtain ⟨k, hk⟩ := h
  have h' := has_least k ⟨k, Nat.le_refl _, hk⟩
  unfold least
  rw [dif_pos h']
  exact Classical.choose_spec h'
theorem least_le {P : Nat → Prop} {k : Nat} (h : P k) : least P ≤ k := (least_yes ⟨k, h⟩).2 k h
/-- What a round keeps, the copy abides. -/
theorem Sg.abide {A C : World} {sb B D y : Nat} {R : List Nat} {T S : Nat} {M : Nat → Nat} {L : El} (h : Sg A sb R T S M L) (hB : ∀ k ∈ R, B ≤ k) (hD : D ≤ B) (hk : KeepsFrom B A C) (hc : Kc D y A C) : Sg C sb R T S M L := by
  obtain ⟨mb, g, cap, h⟩ := h
  refine ⟨mb, g, cap, hc.same _ _ _ _ (.inl ⟨by have := hB _ h.sR; omega, .inl rfl⟩) h.c, ?_, fun t n hn hq => ⟨?_, (h.row t n hn hq).2⟩, h.inj, h.sR, h.mR, fun j hj => Nat.lt_of_lt_of_le (h.lt j hj) hk.size, h.ok, h.t1, h.t2, h.s1, h.s2, h.mm⟩
  · obtain ⟨Dm, ⟨es, clock, hb, h2⟩, hd⟩ := h.m
    exact ⟨Dm, ⟨es, clock, hk.same _ _ (hB _ h.mR) hb rfl, h2⟩, hd⟩
  · obtain ⟨h1, h2⟩ := h.row t n hn hq
    refine ⟨h1.1, ?_⟩
    rcases h1.2 with q | ⟨gg, cp, cur, e, h3, h4, h5⟩
    · exact .inl q
    · refine .inr ⟨gg, cp, cur, e, h3, hc.same _ _ _ _ (.inl ⟨?_, .inr rfl⟩) h4, h5⟩
      simp only [Value.slice.injEq, Option.some.injEq, Addr.mk.injEq] at e
      have := hB _ h2
      omega
abbrev itv (x y : Nat) : Value := .func (.func 51) #[] #[.pointer (some ⟨x, 0, none⟩), .pointer (some ⟨y, 0, none⟩)]
set_option maxRecDepth 100000 in
theorem all_any (w : World) (p : Option Addr) (t : Int) : Calls Try.prog 35 #[.pointer p, .int .i64 t] w fun e w' => e = .returned (itv w.heap.size (w.heap.size + 1)) ∧ w' = (w.alloc (.cells #[.pointer p] 24)).alloc (.cells #[.int .i64 t] 3) := by
  go_enter Try.func35, Try.ntmps35
  go_wp2
  go_ret
  exact ⟨by simp [itv], rfl⟩
/-- An iterator: what it has caught. -/
structure It (w : World) (x y : Nat) (p : Option Addr) (t : Int) : Prop where
  px : w.heap[x]? = some (.cells #[.pointer p] 24 (0, 0))
  ty : w.heap[y]? = some (.cells #[.int .i64 t] 3 (0, 0))
theorem It.keep {w w' : World} {x y : Nat} {p : Option Addr} {t : Int} (h : It w x y p t) (hk : Kp w w' []) : It w' x y p t := ⟨(hk.block x (lt_of_block h.px) (by simp)).trans h.px, (hk.block y (lt_of_block h.ty) (by simp)).trans h.ty⟩
theorem It.new (w : World) (p : Option Addr) (t : Int) : It ((w.alloc (.cells #[.pointer p] 24)).alloc (.cells #[.int .i64 t] 3)) w.heap.size (w.heap.size + 1) p t := ⟨(Below.heap_alloc _ _ _ (by simp)).trans (heap_alloc_new w _), alloc_snd w _ _⟩
theorem cell_one {w : World} {r : Nat} {u : Value} {t : TypeId} (h : w.heap[r]? = some (.cells #[u] t (0, 0))) : w.cell? ⟨r, 0, none⟩ = some u := by simp [World.cell?, h]
abbrev encY (x : Nat × Int) : Array Value := #[Sv x.1 x.2]
/-- Going over the copy under way: what was told, and how many are left. -/
def Iv (J : Gl → World → Prop) (B ob T : Nat) (t : Int) (Z : Gl) (wr : World) (k : Nat) : Prop := ∃ pre Lk R S M, Sg wr ob R T S M Lk ∧ (∀ q ∈ R, B ≤ q) ∧ J pre wr ∧ pre ++ allV T Lk t = Z ∧ Lk.length = k
set_option maxRecDepth 100000 in
set_option maxHeartbeats 2000000 in
/-- All's function: what is pending when it begins, as it would be taken. -/
theorem it_seqs (n : Nat) (hn : 1 ≤ n) (x y sb : Nat) (R : List Nat) (T S : Nat) (M : Nat → Nat) (L : El) (t : Int) (w : World) (h : It w x y (some ⟨sb, 0, none⟩) t) (hs : Sg w sb R T S M L) :
    Seqs n Try.prog 51 #[.pointer (some ⟨x, 0, none⟩), .pointer (some ⟨y, 0, none⟩)] encY (Kc w.heap.size y) (allV T L t) w := by
  intro l J Jx W hW hJ hJx hY h0
  have hsz := hW.size
  have hi := h.keep (Kp.of_below hW)
  have cx := cell_one hi.px
  have cy := cell_one hi.ty
  have HCp := (callsIn_wide (n := n - 1)).2 (copy_any W sb R T S M L (hs.same (Kp.of_below hW)))
  have HX := hid (fun (z : World) (ob : Nat) (R' : List Nat) (S' : Nat) (M' : Nat → Nat) (Lk : El) (hz : Sg z ob R' T S' M' Lk) => (callsIn_wide (n := n - 1)).2 (next_any z ob R' T S' M' Lk t W32 (by decide) hz))
  have HXY := hid (show ∀ z, Kp W z [] → It z x y (some ⟨sb, 0, none⟩) t from fun z hz => hi.keep hz)
  have hylt : x < W.heap.size ∧ y < W.heap.size := ⟨lt_of_block hi.px, lt_of_block hi.ty⟩
  obtain ⟨Z, hZ⟩ : ∃ Z, allV T L t = Z := ⟨_, rfl⟩
  rw [hZ] at hY ⊢
  have HY := hid hY
  have H0 := hid h0
  have HJ := hid hJ
  have HZ := hid hZ
  have hf16 : Fence.wide.fn 16 := trivial
  have hf29 : Fence.wide.fn 29 := trivial
  clear hW hJ hJx hY h0 h hi hs hZ
  show CallsIn Fence.wide n Try.prog 51 #[.func (.yield l) #[] #[], .pointer (some ⟨x, 0, none⟩), .pointer (some ⟨y, 0, none⟩)] W _
  refine callsIn_of_wp Try.func51 rfl trivial ?_ rfl
  simp only [Try.ntmps51, List.size_toArray, List.length_cons, List.length_nil, Nat.reduceAdd, Nat.reduceSub, Array.replicate_succ, Array.replicate_zero, List.push_toArray, List.append_toArray, List.nil_append, List.cons_append]
  gi_wp2_with (gi_at_call 29; refine HCp.mono ?_; rintro e w1 ⟨ob, R1, rfl, hs1, hR1, hk1⟩; have HI := hid (show ∃ k, Iv J W.heap.size ob T t Z w1 k from ⟨_, [], L, R1, S, M, hs1, hR1, HJ.out [] W w1 H0.out (Low.of_kp hk1 (by simp)), HZ.out, rfl⟩); have HT := hid (HXY.out _ hk1).ty; clear hs1 hR1 hk1)
  gi_loopw [5] (fun _ wr => Hid (∃ k, Iv J W.heap.size ob T t Z wr k) ∧ Hid (wr.heap[y]? = some (.cells #[.int .i64 t] 3 (0, 0)))) (fun _ wr => least (Iv J W.heap.size ob T t Z wr))
  case atStart => exact ⟨HI, HT⟩
  case round =>
    obtain ⟨hI, hT⟩ := hrel
    have hL := least_yes hI.out
    obtain ⟨k0, hk0⟩ : ∃ k0, least (Iv J W.heap.size ob T t Z wr) = k0 := ⟨_, rfl⟩
    rw [hk0] at hL ⊢
    obtain ⟨pre, Lk, R1, S1, M1, hs1, hB1, hJ1, hZ1, hk1⟩ := hL.1
    have HXn := HX.out wr ob R1 S1 M1 Lk hs1
    have cy := cell_one hT.out
    have hbs : W.heap.size ≤ wr.heap.size := by have := hB1 _ hs1.mem; have := hs1.lt _ hs1.mem; omega
    have HTo := hid (show ∀ z R2, Nw wr R1 R2 → Kp wr z R1 → Hid (∀ q ∈ R2, W.heap.size ≤ q) ∧ Hid (J pre (z)) ∧ Hid (z.heap[y]? = some (.cells #[.int .i64 t] 3 (0, 0))) from fun z R2 h2 hz => ⟨hid (fun q hq => by
      rcases h2 q hq with q' | q'
      · exact hB1 q q'
      · omega), hid (HJ.out pre wr z hJ1 (Low.of_kp hz hB1)), hid ((hz.block y (lt_of_block hT.out) (fun hm => by have := hB1 _ hm; omega)).trans hT.out)⟩)
    by_cases hn : nxN T Lk t W32 ≤ 31
    · obtain ⟨e1, -, e3⟩ := allV_more hn
      unfold nxV nxB at HXn
      rw [if_pos hn, decide_eq_true hn] at HXn
      unfold Sv at HXn
      generalize nxL T Lk t W32 = Ln at HXn e1 e3
      generalize nxN T Lk t W32 = m at HXn e1
      generalize hdv Lk t.toNat m = v at HXn e1
      rw [e1] at hZ1
      have HZ1 := hid hZ1
      have HE := hid (show Ln.length + 1 = k0 by omega)
      have HXn := hid HXn
      clear hs1 hB1 hJ1 hZ1 hk1 hn e1 e3 hL hk0
      gi_wp2_with (gi_at_call 16; refine HXn.out.mono ?_; rintro e w2 ⟨rfl, R2, hs2, hn2, hk2⟩; have HS2 := hid (hs2.same (Kp.alloc w2 (.cells #[.int .i64 m, .int .i64 v] 47) [])); obtain ⟨hB2, hJ2, hT2⟩ := HTo.out (w2.alloc (.cells #[.int .i64 m, .int .i64 v] 47)) R2 hn2 (hk2.trans (Kp.alloc w2 (.cells #[.int .i64 m, .int .i64 v] 47) R1)); obtain ⟨fn, tmps, assign, body, hy, hRR⟩ := HY.out pre (m, v) (w2.alloc (.cells #[.int .i64 m, .int .i64 v] 47)) hJ2.out (by rw [← HZ1.out]; exact ⟨allV T Ln t, by simp⟩); have hy : (Instr.yield l #[.agg #[.int .i64 m, .int .i64 v]]).run Try.prog (w2.alloc (.cells #[.int .i64 m, .int .i64 v] 47)) = .ok (.round l fn tmps assign body) (w2.alloc (.cells #[.int .i64 m, .int .i64 v] 47)) := hy; have HRR := hid hRR; clear hRR hs2 hn2 hk2)
      refine HRR.out.mono ?_
      rintro e W3 ⟨hkf, (⟨rfl, hJ3, hk3⟩ | ⟨rfl, hJx3⟩)⟩
      · have I3 := hid (show Iv J W.heap.size ob T t Z W3 Ln.length from ⟨pre ++ [(m, v)], Ln, R2, S1, M1, HS2.out.abide hB2.out hsz hkf hk3, hB2.out, hJ3, by rw [← HZ1.out]; simp, rfl⟩)
        have T3 := hid (hk3.same _ _ _ _ (.inr rfl) hT2.out)
        clear hJ3 hk3 hkf hy
        gi_wp2
        go_roundw
        case rel => exact ⟨hid ⟨_, I3.out⟩, T3⟩
        case measure => have := least_le I3.out; have := HE.out; omega
      · have JX := hid hJx3
        clear hJx3 hkf hy
        gi_wp2
        refine bodyPost_ret (results_none rfl _ _ _) rfl ?_
        exact ⟨⟨_, rfl⟩, .inr ⟨_, by rw [← HZ1.out]; exact ⟨allV T Ln t, by simp⟩, JX.out⟩⟩
    · obtain ⟨e1, -⟩ := allV_end hn
      unfold nxV nxB nxL at HXn
      rw [if_neg hn, if_neg hn, decide_eq_false hn] at HXn
      unfold Sv at HXn
      have HXn := hid HXn
      rw [e1, List.append_nil] at hZ1
      subst hZ1
      clear hs1 hB1 hJ1 hk1 hn e1 hL hk0
      gi_wp2_with (gi_at_call 16; refine HXn.out.mono ?_; rintro e w2 ⟨rfl, R2, hs2, hn2, hk2⟩; have hJ2 := (HTo.out (w2.alloc (.cells #[.int .i64 0, .int .i64 0] 47)) R2 hn2 (hk2.trans (Kp.alloc w2 (.cells #[.int .i64 0, .int .i64 0] 47) R1))).2.1; clear hs2 hn2 hk2)
      gi_wp2
      refine ⟨fun f h => (by cases h), ?_⟩
      gi_wp2
      refine bodyPost_ret (results_none rfl _ _ _) rfl ?_
      exact ⟨⟨_, rfl⟩, .inl hJ2.out⟩
end Go.Proofs.Ytoenipaccnpihaa
