/- do: a step that writes some bytes; what was handed in is written over afterwards, and the arena keeps its own. -/
import Derived.Test.YtihlejphjdelfaaDoRead
import Derived.Laws.AppendOwnNone
import Derived.Deep.DeepCutAuto
import Derived.WideShapes
namespace Go.Proofs.Ytihlejphjdelfaa
open Go.RowKit
set_option linter.unusedVariables false
set_option linter.unusedSectionVars false

/-- Bytes as a string, in w. -/
abbrev Cv (w : World) (v : Value) (l : List Int) : Prop := (convert 36 9 v).run Try.prog w = .ok (.string (strOfNums l)) w

/-- An append onto what the call owns, of bytes that are read, wherever they lie. -/
theorem wpList_append_bs {w : World} {ops : Array Oper} {rest : List Oper} {o : Oper} {a : Act} {Q : Exit → Act → World → Prop} (hgd : o.guard = none) (s x : Operand)
    (ho : o.op = .call { callee := .builtin .append, args := #[s, x], argTypes := #[36, 36] })
    (base : Nat) (v : Value) (n : Nat) (xs : List Value) (hs : a.eval s = v) (hown : w.ownsRow base 5 1 v n xs)
    (vx : Value) (l : List Int) (hx : a.eval x = vx) (hb : Bs w vx l) (hm : n + l.length ≤ 140737488355328) (hbase : base ≤ w.heap.size)
    (h : ∀ v' w', w'.ownsRow base 5 1 v' (n + l.length) (xs ++ ub l) → w.grownBy w' v.ownBlock → wpList Try.prog ops Q rest (a.put o.dst v') w') : wpList Try.prog ops Q (o :: rest) a w := by
  obtain ⟨i0, hi, hz0, hz1, hz2⟩ := info_parts Try.info5
  have hb' := hb
  obtain ⟨ao, cap, rfl, hl, hn, -⟩ := hb
  cases ao with
  | none =>
    obtain rfl : cap = 0 := hn rfl
    have hl0 : l = [] := List.eq_nil_of_length_eq_zero (by omega)
    subst hl0
    refine wpList_append_own_none hgd s x 36 ho base 5 i0 1 Try.underlying36 hi v n xs hs hown hx ?_
    exact h v w (by simpa [ub] using hown) (World.grownBy.refl _ _)
  | some ad =>
    exact wpList_append_own w hgd s x 36 ho base 5 i0 (.int .u8 0) 1 1 Try.underlying36 hi hz0 hz1 hz2 rfl (by decide) v n xs hs hown ad l.length cap (ub l) hx (by simp [ub]) (hb'.cells rfl fun _ _ => rfl) (ub_one l) (by unfold maxLen; omega) (by omega) hbase fun v' w' a1 a2 _ => h v' w' a1 a2

theorem sn_snoc (l : List Int) : strOfNums l ++ ⟨#[119]⟩ = strOfNums (l ++ [119]) := by
  apply Go.WideShapes.bytes_inj
  rw [strOfNums_data, ByteArray.data_append, Array.toList_append, strOfNums_data, List.map_append]
  rfl
theorem cell_one_new (w : World) (v : Value) (t : TypeId) : ∀ j u, [v][j]? = some u → (w.alloc (.cells #[v] t)).cell? ((⟨w.heap.size, 0, none⟩ : Addr).add j) = some u := by
  intro j u hu
  cases j with
  | zero =>
    simp at hu
    subst hu
    rw [Addr.add_lit]
    exact cell_new0
  | succ j => simp at hu
theorem one_one (k : IntKind) (a : Int) : ∀ u ∈ [Value.int k a], u.oneCell' = true := by
  intro u hu
  simp at hu
  subst hu
  rfl
theorem grown_step {w wr w1 : World} {o : Obj} {v : Value} {row : Option Nat} {e s n : Nat} {xs : List Value} (hg : w.grownBy wr row) (hown : wr.ownsRow w.heap.size e s v n xs) (hgrow : (wr.alloc o).grownBy w1 v.ownBlock) : w.grownBy w1 row := by
  refine ⟨hgrow.os.trans hg.os, hgrow.tape.trans hg.tape, hgrow.output.trans hg.output, ?_, fun k hk hr => ?_⟩
  · have := hg.size; have := hgrow.size; simp at this; omega
  · have h1 := hg.size
    rw [hgrow.block k (by simp; omega) (fun e => by have := (hown.lt k e.symm).1; omega), Below.heap_alloc wr o k (by omega), hg.block k hk hr]

/-- A row's first bytes. -/
theorem bs_head {w : World} {g cap : Nat} {l r : List Int} (h : Bs w (.slice (some ⟨g, 0, none⟩) (l ++ r).length cap) (l ++ r)) : Bs w (.slice (some ⟨g, 0, none⟩) l.length cap) l := by
  obtain ⟨ao, cap', hv, hl, hn, hc⟩ := h
  simp only [Value.slice.injEq, true_and] at hv
  obtain ⟨rfl, rfl⟩ := hv
  refine ⟨_, _, rfl, by simp at hl; omega, hn, fun hne => ?_⟩
  obtain ⟨b, off, e, hcell⟩ := hc (by intro e; simp at e; exact hne e.1)
  refine ⟨b, off, e, fun i hi => ?_⟩
  rw [hcell i (by simp; omega)]
  congr 2
  simp [List.getElem?_append_left hi]

section
variable (w : World) (rb mb rr mr n : Nat) (f : Nat → Int) (c : Int) (h : Two w rb mb rr mr n f c) (hg : Good n) (hc0 : 0 ≤ c) (hc1 : c < 1000000)
include h hg hc0 hc1

set_option maxRecDepth 100000 in
set_option maxHeartbeats 2000000 in
theorem do_write_ok (o : Nat) (m x : Int) (v : Value) (l : List Int) (hv : Bs w v l) (hby : Byt l) (hml : l.length ≤ 140737488351232) (hvb : l ≠ [] → ∀ k, v.ownBlock = some k → k ≠ rb ∧ k ≠ mb ∧ k ≠ rr ∧ k ≠ mr) (hfit : o + l.length ≤ n) :
    Calls Try.prog 13 #[.pointer (some ⟨rb, 0, none⟩), .pointer (some ⟨rr, 0, none⟩), .agg #[.int .i64 4, .int .i64 (o : Nat), .int .i64 m, .int .u32 x, v]] w fun e w' => Went w w' rb mb rr mr n c e := by
  obtain ⟨i0, hi, hz0, hz1, hz2⟩ := info_parts Try.info5
  have H := hid h
  have HN := hid (show n ≤ 65536 by have := hg.2.1; omega)
  have HY := hid hby
  have HML := hid hml
  have HVB := hid hvb
  obtain ⟨ao, cp, rfl, -⟩ := bs_some hv
  have HV := hid hv
  have hap := h.apart
  have hA := h.1.lt
  have hR := h.2.1.lt
  have qs := (Sx.made w 4 (o : Nat) m x (.slice ao l.length cp)).cells
  have HV1 := hid (HV.out.kept (Kp.alloc w (.cells #[.int .i64 4, .int .i64 (o : Nat), .int .i64 m, .int .u32 x, .slice ao l.length cp] 38) []) (by simp))
  clear h hv hby hml hvb
  go_enter Try.func13, Try.ntmps13
  go_wp2_with (first
    | (at_builtin; refine wpList_append_bs rfl _ _ rfl (w.heap.size + 1) _ 0 [] rfl (World.ownsRow_nil _ _ _ _) _ l rfl HV1.out (by have := HML.out; omega) (by simp) ?_; intro v5 w5 hown5 hg5)
    | (at_builtin; refine wpList_append_own _ rfl _ _ 36 rfl (w.heap.size + 1) 5 i0 (.int .u8 0) 1 1 Try.underlying36 hi hz0 hz1 hz2 rfl (by decide) _ _ _ rfl (hown5.alloc _) ⟨_, 0, none⟩ 1 1 [.int .u8 119] rfl rfl (cell_one_new _ _ _) (one_one _ _) (by have := HML.out; unfold maxLen; omega) (by have := HML.out; omega) (by have := hg5.size; simp at this; simp; omega) ?_; intro v6 w6 hown6 hg6 hiff6; clear hiff6))
  have hO6 : w6.ownsRow (w.heap.size + 1) 5 1 v6 (l ++ [119]).length (ub (l ++ [119])) := by simpa [ub] using hown6
  have G5 : (w.alloc (.cells #[.int .i64 4, .int .i64 (o : Nat), .int .i64 m, .int .u32 x, .slice ao l.length cp] 38)).grownBy w5 none := hg5
  have hO5 : w5.ownsRow (w.alloc (.cells #[.int .i64 4, .int .i64 (o : Nat), .int .i64 m, .int .u32 x, .slice ao l.length cp] 38)).heap.size 5 1 v5 l.length (ub l) := by simpa using hown5
  have G6 := grown_step G5 hO5 hg6
  obtain ⟨M, hM⟩ : ∃ M, M = l.length + 1 := ⟨_, rfl⟩
  have hML : (l ++ [119]).length = M := by simp [hM]
  have hO6' := hO6
  rw [hML] at hO6'
  rcases hO6'.2 with ⟨-, h0⟩ | ⟨g, cap6, cur, hv6, hb6, hg6', hnc6, hcm6, hcs6, htake6⟩
  · omega
  subst hv6
  have K6 : Kp w w6 [] := (Kp.alloc w (.cells #[.int .i64 4, .int .i64 (o : Nat), .int .i64 m, .int .u32 x, .slice ao l.length cp] 38) []).trans (Kp.grown G6)
  have HD6 := hid (HV1.out.kept (Kp.grown (rows := []) G6) (by simp))
  have H6 := hid (H.out.keep K6)
  have HN6 := hid (show Bs w6 (.slice (some ⟨g, 0, none⟩) (l ++ [119]).length cap6) (l ++ [119]) by rw [hML]; have := Bs.of_owns (l := l ++ [119]) hO6; exact this)
  have HOW := hid hO6'
  have q1 := (Kp.grown (rows := []) G6).cell qs.2.1 (by simp)
  have q4 := (Kp.grown (rows := []) G6).cell qs.2.2.2.2 (by simp)
  have hgl : w.heap.size + 1 ≤ g := hb6
  have hcI : (l.length : Int) ≤ (cap6 : Int) := by omega
  have HKS : Hid (∀ w', Kp w6 w' [rb, mb, rr, mr] → w'.cell? ⟨w.heap.size, 1, none⟩ = some (.int .i64 (o : Nat)) ∧ w'.cell? ⟨w.heap.size, 4, none⟩ = some (.slice ao l.length cp) ∧ Cv w' (.slice (some ⟨g, 0, none⟩) M cap6) (l ++ [119]) ∧ Cv w' (.slice ao l.length cp) l) := by
    intro w' hk
    refine ⟨hk.cell q1 (by simp; omega), hk.cell q4 (by simp; omega), ?_, conv_bs (HD6.out.kept' hk (fun hne k e => by have := HVB.out hne k e; simp; omega))⟩
    have h1 := conv_bs (HN6.out.kept hk (fun k e => by simp [Value.ownBlock] at e; simp; omega))
    rw [hML] at h1
    exact h1
  have HBH := hid (bs_head HN6.out)
  have HK6 := hid K6
  have HM := hid hM
  have hadd : ∀ w' : World, (Op.stringOp .add (strOfNums l) ⟨#[119]⟩).run Try.prog w' = .ok (.string (strOfNums (l ++ [119]))) w' := fun w' => by
    rw [run_string_add_sum w' _ _ (by rw [strOfNums_size]; have := HML.out; show l.length + 1 ≤ _; omega), sn_snoc]
  have hszN : ¬ (9223372036854775807 < (strOfNums l).size + 1) := by rw [strOfNums_size]; have := HML.out; omega
  have hcat := sn_snoc l
  have hMl : (l.length : Int) ≤ (M : Int) := by omega
  clear hown5 hown6 hg5 hg6 hO5 hO6 hO6' G5 G6 K6 hg6' hcs6 htake6 hM qs q1 q4 hML hb6 hi hz0 hz1 hz2
  go_region_held (fun w' => w'.cell? ⟨w.heap.size, 1, none⟩ = some (.int .i64 (o : Nat)) ∧ w'.cell? ⟨w.heap.size, 4, none⟩ = some (.slice ao l.length cp) ∧ Cv w' (.slice (some ⟨g, 0, none⟩) M cap6) (l ++ [119]) ∧ Cv w' (.slice ao l.length cp) l)
    (first
      | exact HKS.out _ (Kp.drew _ _)
      | exact HKS.out _ (((Kp.drew _ _).trans (hk7.mono (by simp))).trans (hk8.mono (by simp)))
      | exact HKS.out _ ((Kp.drew _ _).trans (hk7.mono (by simp))))
    (first
      | (go_at_call 20; refine (write_ok _ rb mb n o f c _ l (H6.out.keep (Kp.drew _ [])).1 HN.out (HBH.out.kept (Kp.drew _ []) (by simp)) HY.out hfit).mono ?_; rintro e w7 ⟨rfl, hA7, hk7⟩)
      | (go_at_call 9; go_in)
      | (go_at_call 27; refine (rwrite_ok _ rr mr n o f c _ l (H6.out.2.1.keep ((Kp.drew _ _).trans hk7) (by simp; omega) (by simp; omega)) HN.out (HD6.out.kept' ((Kp.drew _ _).trans hk7) (fun hne k e => by have := HVB.out hne k e; simp; omega)) HY.out (fun hne e => absurd rfl (HVB.out hne mr e).2.2.2) hfit).mono ?_; rintro e w8 ⟨rfl, hR8, hk8⟩))
  have HA8 := hid (hA7.keep hk8 (by simp; omega) (by simp; omega))
  have HT8 := hid (show Two w8 rb mb rr mr n (over f o l) c from ⟨HA8.out, hR8, H.out.2.2⟩)
  have HK8 := hid (show Kp w6 w8 [rb, mb, rr, mr] from (((Kp.drew _ _).trans (hk7.mono (by simp))).trans (hk8.mono (by simp))))
  clear hA7 hk7 hR8 hk8
  have HO8 : Hid (w8.ownsRow (w.heap.size + 1) 5 1 (.slice (some ⟨g, 0, none⟩) M cap6) M (ub (l ++ [119]))) := by
    have h0 := HOW.out
    refine ⟨h0.1, ?_⟩
    rcases h0.2 with ⟨hh, -⟩ | ⟨g', cap, cur, hv, hb', hg', rest⟩
    · simp at hh
    · have hv' := hv
      simp only [Value.slice.injEq, Option.some.injEq, Addr.mk.injEq, and_true, true_and] at hv'
      obtain ⟨rfl, rfl⟩ := hv'
      exact .inr ⟨g, cap6, cur, hv, hb', (HK8.out.block g (lt_of_block hg') (by simp; omega)).trans hg', rest⟩
  have hMI : (M : Int) ≤ 140737488351233 := by have := HML.out; have := HM.out; omega
  clear hadd hszN hcat HKS
  clear hcI hMl
  go_wp2
  go_loopw [21] (fun i wr => ∃ k : Nat, k ≤ M ∧ i = .int .i64 k ∧ Hid (∃ ys, wr.ownsRow (w.heap.size + 1) 5 1 (.slice (some ⟨g, 0, none⟩) M cap6) M ys) ∧ Hid (Kp w8 wr [g]))
    (fun i _ => M - (intOf i).toNat)
  case atStart => exact ⟨0, Nat.zero_le _, rfl, ⟨_, HO8.out⟩, Kp.refl _ _⟩
  case round =>
    obtain ⟨k, hk, rfl, hown, hgk⟩ := hrel
    by_cases hlt : k < M
    · obtain ⟨ys, hys⟩ := hown.out
      have hlt' : (k : Int) < (M : Int) := by omega
      have hcl := hys.cellAt k (by omega)
      have hyl : k < ys.length := by have := hys.1; omega
      rw [List.getElem?_eq_getElem hyl] at hcl
      have hfr := hys.frozenAt k
      have hst := hys.stored k (.int .u8 102)
      have HS1 := hid hst.1
      clear hst hys hown
      go_wp2
      go_roundw
      case rel => exact ⟨k + 1, by omega, by go_num, ⟨_, HS1.out⟩, hgk.out.trans (Kp.setCell _ ⟨g, k, none⟩ _)⟩
      case measure => simp [intOf]; omega
    · have hlt' : ¬ (k : Int) < (M : Int) := by omega
      have HX := hid (show Kp w8 wr [g] from hgk.out)
      go_wp2
      go_ret3
      refine ⟨rb, mb, over f o l, c, rfl, ⟨HT8.out.1.keep HX.out (by simp; omega) (by simp; omega), HT8.out.2.1.keep HX.out (by simp; omega) (by simp; omega), H.out.2.2⟩, by omega, by omega, .inl ⟨rfl, rfl⟩, ?_⟩
      exact (HK6.out.nil.trans (HK8.out)).past HX.out (fun j hj hlt => by simp at hj; omega)

set_option maxRecDepth 100000 in
set_option maxHeartbeats 2000000 in
theorem do_write_no (a : Int) (ha : a ≤ 9223372036854775807) (m x : Int) (v : Value) (l : List Int) (hv : Bs w v l) (hby : Byt l) (hml : l.length ≤ 140737488351232) (hvb : l ≠ [] → ∀ k, v.ownBlock = some k → k ≠ rb ∧ k ≠ mb ∧ k ≠ rr ∧ k ≠ mr) (hb : hasB n a l.length = false) :
    Calls Try.prog 13 #[.pointer (some ⟨rb, 0, none⟩), .pointer (some ⟨rr, 0, none⟩), .agg #[.int .i64 4, .int .i64 a, .int .i64 m, .int .u32 x, v]] w fun e w' => Went w w' rb mb rr mr n c e := by
  obtain ⟨i0, hi, hz0, hz1, hz2⟩ := info_parts Try.info5
  have H := hid h
  have HN := hid (show n ≤ 65536 by have := hg.2.1; omega)
  have HY := hid hby
  have HML := hid hml
  have HVB := hid hvb
  obtain ⟨ao, cp, rfl, -⟩ := bs_some hv
  have HV := hid hv
  have hap := h.apart
  have hA := h.1.lt
  have hR := h.2.1.lt
  have qs := (Sx.made w 4 a m x (.slice ao l.length cp)).cells
  have HV1 := hid (HV.out.kept (Kp.alloc w (.cells #[.int .i64 4, .int .i64 a, .int .i64 m, .int .u32 x, .slice ao l.length cp] 38) []) (by simp))
  have HB := hid hb
  clear hb
  clear h hv hby hml hvb
  go_enter Try.func13, Try.ntmps13
  go_wp2_with (first
    | (at_builtin; refine wpList_append_bs rfl _ _ rfl (w.heap.size + 1) _ 0 [] rfl (World.ownsRow_nil _ _ _ _) _ l rfl HV1.out (by have := HML.out; omega) (by simp) ?_; intro v5 w5 hown5 hg5)
    | (at_builtin; refine wpList_append_own _ rfl _ _ 36 rfl (w.heap.size + 1) 5 i0 (.int .u8 0) 1 1 Try.underlying36 hi hz0 hz1 hz2 rfl (by decide) _ _ _ rfl (hown5.alloc _) ⟨_, 0, none⟩ 1 1 [.int .u8 119] rfl rfl (cell_one_new _ _ _) (one_one _ _) (by have := HML.out; unfold maxLen; omega) (by have := HML.out; omega) (by have := hg5.size; simp at this; simp; omega) ?_; intro v6 w6 hown6 hg6 hiff6; clear hiff6))
  have hO6 : w6.ownsRow (w.heap.size + 1) 5 1 v6 (l ++ [119]).length (ub (l ++ [119])) := by simpa [ub] using hown6
  have G5 : (w.alloc (.cells #[.int .i64 4, .int .i64 a, .int .i64 m, .int .u32 x, .slice ao l.length cp] 38)).grownBy w5 none := hg5
  have hO5 : w5.ownsRow (w.alloc (.cells #[.int .i64 4, .int .i64 a, .int .i64 m, .int .u32 x, .slice ao l.length cp] 38)).heap.size 5 1 v5 l.length (ub l) := by simpa using hown5
  have G6 := grown_step G5 hO5 hg6
  obtain ⟨M, hM⟩ : ∃ M, M = l.length + 1 := ⟨_, rfl⟩
  have hML : (l ++ [119]).length = M := by simp [hM]
  have hO6' := hO6
  rw [hML] at hO6'
  rcases hO6'.2 with ⟨-, h0⟩ | ⟨g, cap6, cur, hv6, hb6, hg6', hnc6, hcm6, hcs6, htake6⟩
  · omega
  subst hv6
  have K6 : Kp w w6 [] := (Kp.alloc w (.cells #[.int .i64 4, .int .i64 a, .int .i64 m, .int .u32 x, .slice ao l.length cp] 38) []).trans (Kp.grown G6)
  have HD6 := hid (HV1.out.kept (Kp.grown (rows := []) G6) (by simp))
  have H6 := hid (H.out.keep K6)
  have HN6 := hid (show Bs w6 (.slice (some ⟨g, 0, none⟩) (l ++ [119]).length cap6) (l ++ [119]) by rw [hML]; have := Bs.of_owns (l := l ++ [119]) hO6; exact this)
  have HOW := hid hO6'
  have q1 := (Kp.grown (rows := []) G6).cell qs.2.1 (by simp)
  have q4 := (Kp.grown (rows := []) G6).cell qs.2.2.2.2 (by simp)
  have hgl : w.heap.size + 1 ≤ g := hb6
  have hcI : (l.length : Int) ≤ (cap6 : Int) := by omega
  have HKS : Hid (∀ w', Kp w6 w' [rb, mb, rr, mr] → w'.cell? ⟨w.heap.size, 1, none⟩ = some (.int .i64 a) ∧ w'.cell? ⟨w.heap.size, 4, none⟩ = some (.slice ao l.length cp) ∧ Cv w' (.slice (some ⟨g, 0, none⟩) M cap6) (l ++ [119]) ∧ Cv w' (.slice ao l.length cp) l) := by
    intro w' hk
    refine ⟨hk.cell q1 (by simp; omega), hk.cell q4 (by simp; omega), ?_, conv_bs (HD6.out.kept' hk (fun hne k e => by have := HVB.out hne k e; simp; omega))⟩
    have h1 := conv_bs (HN6.out.kept hk (fun k e => by simp [Value.ownBlock] at e; simp; omega))
    rw [hML] at h1
    exact h1
  have HBH := hid (bs_head HN6.out)
  have HK6 := hid K6
  have HM := hid hM
  have hadd : ∀ w' : World, (Op.stringOp .add (strOfNums l) ⟨#[119]⟩).run Try.prog w' = .ok (.string (strOfNums (l ++ [119]))) w' := fun w' => by
    rw [run_string_add_sum w' _ _ (by rw [strOfNums_size]; have := HML.out; show l.length + 1 ≤ _; omega), sn_snoc]
  have hszN : ¬ (9223372036854775807 < (strOfNums l).size + 1) := by rw [strOfNums_size]; have := HML.out; omega
  have hcat := sn_snoc l
  have hMl : (l.length : Int) ≤ (M : Int) := by omega
  clear hown5 hown6 hg5 hg6 hO5 hO6 hO6' G5 G6 K6 hg6' hcs6 htake6 hM qs q1 q4 hML hb6 hi hz0 hz1 hz2
  go_region_held (fun w' => w'.cell? ⟨w.heap.size, 1, none⟩ = some (.int .i64 a) ∧ w'.cell? ⟨w.heap.size, 4, none⟩ = some (.slice ao l.length cp) ∧ Cv w' (.slice (some ⟨g, 0, none⟩) M cap6) (l ++ [119]) ∧ Cv w' (.slice ao l.length cp) l)
    (first
      | exact HKS.out _ (Kp.drew _ _)
      | exact HKS.out _ ((Kp.drew _ _).trans hk7.nil))
    (first
      | (go_at_call 20; refine (write_no _ rb mb n f c a _ l.length _ (H6.out.keep (Kp.drew _ [])).1 HN.out ha HB.out).mono ?_; rintro e w7 ⟨rfl, hk7⟩)
      | (go_at_call 9; go_in)
      | (go_at_call 27; refine (rwrite_no _ rr mr n f c a _ l.length _ (H6.out.2.1.keep ((Kp.drew _ []).trans hk7) (by simp) (by simp)) HN.out ha (by have := HML.out; omega) HB.out).mono ?_; rintro e w8 ⟨rfl, rfl⟩))
  have HT8 := hid (show Two w8 rb mb rr mr n f c from H6.out.keep ((Kp.drew _ []).trans hk7))
  have HK8 := hid (show Kp w6 w8 [rb, mb, rr, mr] from ((Kp.drew _ []).trans hk7).nil)
  clear hk7
  have HO8 : Hid (w8.ownsRow (w.heap.size + 1) 5 1 (.slice (some ⟨g, 0, none⟩) M cap6) M (ub (l ++ [119]))) := by
    have h0 := HOW.out
    refine ⟨h0.1, ?_⟩
    rcases h0.2 with ⟨hh, -⟩ | ⟨g', cap, cur, hv, hb', hg', rest⟩
    · simp at hh
    · have hv' := hv
      simp only [Value.slice.injEq, Option.some.injEq, Addr.mk.injEq, and_true, true_and] at hv'
      obtain ⟨rfl, rfl⟩ := hv'
      exact .inr ⟨g, cap6, cur, hv, hb', (HK8.out.block g (lt_of_block hg') (by simp; omega)).trans hg', rest⟩
  have hMI : (M : Int) ≤ 140737488351233 := by have := HML.out; have := HM.out; omega
  clear hadd hszN hcat HKS
  clear hcI hMl
  go_wp2
  go_loopw [21] (fun i wr => ∃ k : Nat, k ≤ M ∧ i = .int .i64 k ∧ Hid (∃ ys, wr.ownsRow (w.heap.size + 1) 5 1 (.slice (some ⟨g, 0, none⟩) M cap6) M ys) ∧ Hid (Kp w8 wr [g]))
    (fun i _ => M - (intOf i).toNat)
  case atStart => exact ⟨0, Nat.zero_le _, rfl, ⟨_, HO8.out⟩, Kp.refl _ _⟩
  case round =>
    obtain ⟨k, hk, rfl, hown, hgk⟩ := hrel
    by_cases hlt : k < M
    · obtain ⟨ys, hys⟩ := hown.out
      have hlt' : (k : Int) < (M : Int) := by omega
      have hcl := hys.cellAt k (by omega)
      have hyl : k < ys.length := by have := hys.1; omega
      rw [List.getElem?_eq_getElem hyl] at hcl
      have hfr := hys.frozenAt k
      have hst := hys.stored k (.int .u8 102)
      have HS1 := hid hst.1
      clear hst hys hown
      go_wp2
      go_roundw
      case rel => exact ⟨k + 1, by omega, by go_num, ⟨_, HS1.out⟩, hgk.out.trans (Kp.setCell _ ⟨g, k, none⟩ _)⟩
      case measure => simp [intOf]; omega
    · have hlt' : ¬ (k : Int) < (M : Int) := by omega
      have HX := hid (show Kp w8 wr [g] from hgk.out)
      go_wp2
      go_ret3
      refine ⟨rb, mb, f, c, rfl, ⟨HT8.out.1.keep HX.out (by simp; omega) (by simp; omega), HT8.out.2.1.keep HX.out (by simp; omega) (by simp; omega), H.out.2.2⟩, by omega, by omega, .inl ⟨rfl, rfl⟩, ?_⟩
      exact (HK6.out.nil.trans (HK8.out)).past HX.out (fun j hj hlt => by simp at hj; omega)
end
end Go.Proofs.Ytihlejphjdelfaa
