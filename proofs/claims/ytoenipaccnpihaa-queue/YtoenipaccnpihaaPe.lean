/- Peek. -/
import Derived.Test.YtoenipaccnpihaaPk
namespace Go.Proofs.Ytoenipaccnpihaa
open Go.RowKit Go.Shelf Go.Sort Go.Maps
open Go.Lib hiding intOf
attribute [local go_sem] Oper.semAt_some

theorem alloc_two (w : World) (X Y : Obj) : ((w.alloc X).alloc Y).heap[w.heap.size]? = some X := by
  show ((w.heap.push X).push Y)[w.heap.size]? = some X
  simp [Array.getElem?_push]
theorem lowS_le (s : Nat) : lowS s ≤ 32 := by
  unfold lowS
  cases hf : (List.range' 1 31).find? fun n => s.testBit n with
  | none => simp
  | some n =>
    have := List.mem_range'_1.1 (List.mem_of_find?_eq_some hf)
    simp
    omega
set_option maxRecDepth 100000 in
theorem peek_none (w : World) (sb : Nat) (R : List Nat) (T S : Nat) (M : Nat → Nat) (L : El) (t : Int) (W : Nat) (hW : W < 4294967296) (h : Sg w sb R T S M L) (hn : ¬ nxN T L t W ≤ 31) : Calls Try.prog 23 #[.pointer (some ⟨sb, 0, none⟩), .int .i64 t, .int .u32 W] w fun e w' => e = .returned (.tuple #[Sv 0 0, .bool false]) ∧ Kp w w' [] := by
  unfold Sv
  have HK := hid (Kp.alloc w (.cells #[.int .i64 0, .int .i64 0] 47) [])
  have H := hid (pending_any _ sb R T S M L t (h.same HK.out))
  have hb := and_bits (pending_lt h t) hW
  have hlt : pendingV T L t &&& W < 4294967296 := Nat.lt_of_le_of_lt Nat.and_le_left (pending_lt h t)
  have K := lowest_any (w.alloc (.cells #[.int .i64 0, .int .i64 0] 47)) _ hlt
  have hl := lowS_le (pendingV T L t &&& W)
  have e32 : lowS (pendingV T L t &&& W) = 32 := by unfold nxN at hn; omega
  rw [e32] at K
  have K := hid K
  clear h hn hlt hl e32
  generalize pendingV T L t = x at H hb K
  generalize x &&& W = y at hb K
  go_enter Try.func23, Try.ntmps23
  go_wp2_with fail
  refine H.out.mono ?_
  rintro e w1 ⟨rfl, hw⟩; obtain rfl := hw.symm
  go_wp2_with fail
  refine K.out.mono ?_
  rintro e w1 ⟨rfl, hw⟩; obtain rfl := hw.symm
  go_wp2
  refine bodyPost_ret (results_cell_row2 rfl _ _ w.heap.size 47 #[.int .i64 0, .int .i64 0] (0, 0) _ rfl (heap_alloc_new w _) Try.underlying47 rfl (size47 _ _)) rfl ?_
  exact ⟨rfl, HK.out⟩
set_option maxRecDepth 100000 in
theorem peek_plain (w : World) (sb : Nat) (R : List Nat) (T S : Nat) (M : Nat → Nat) (L : El) (t : Nat) (W n : Nat) (hW : W < 4294967296) (h : Sg w sb R T S M L) (ht : t < T) (hl : low L t W = n) (hn : n < 16) : Calls Try.prog 23 #[.pointer (some ⟨sb, 0, none⟩), .int .i64 t, .int .u32 W] w fun e w' => e = .returned (.tuple #[Sv n 0, .bool true]) ∧ Kp w w' [] := by
  unfold Sv
  have HK := hid (Kp.alloc w (.cells #[.int .i64 0, .int .i64 0] 47) [])
  have H := hid (pending_yes _ sb R T S M L t (h.same HK.out) ht)
  have hb := and_bits (h.pp t) hW
  have hlt : pend L t &&& W < 4294967296 := Nat.lt_of_le_of_lt Nat.and_le_left (h.pp t)
  have K := lowest_any (w.alloc (.cells #[.int .i64 0, .int .i64 0] 47)) _ hlt
  rw [← low_S, hl, decide_eq_true (show n ≤ 31 by omega)] at K
  have K := hid K
  have Q := hid (fun w => queues_any w n)
  have hd : decide (15 < (n : Int)) = false := by simp; omega
  rw [hd] at Q
  clear h hlt hl ht hd
  generalize pend L t = x at H hb K
  generalize x &&& W = y at hb K
  go_enter Try.func23, Try.ntmps23
  go_wp2_with fail
  refine H.out.mono ?_
  rintro e w1 ⟨rfl, hw⟩; obtain rfl := hw.symm
  go_wp2_with fail
  refine K.out.mono ?_
  rintro e w1 ⟨rfl, hw⟩; obtain rfl := hw.symm
  go_wp2_with fail
  refine (Q.out _).mono ?_
  rintro e w1 ⟨rfl, hw⟩; obtain rfl := hw.symm
  go_wp2
  refine bodyPost_ret (results_cell_row2 rfl _ _ w.heap.size 47 #[.int .i64 n, .int .i64 0] (0, 0) _ rfl ?_ Try.underlying47 rfl (size47 _ _)) rfl ?_
  · exact alloc_two _ _ _
  exact ⟨rfl, (Kp.alloc _ _ _).trans (Kp.alloc _ _ _)⟩
/-- A look-up, at the operation. -/
theorem wpList_look {w : World} {ops : Array Oper} {rest : List Oper} {o : Oper} {a : Act} {Q : Exit → Act → World → Prop} (hg : o.guard = none) (m x : Operand) (hop : o.op = Op.lookup 59 m x false)
    (b : Nat) (F : QF) (t n : Nat) (v : Value) (hm : a.eval m = .map (some b)) (hx : a.eval x = key t n) (h : Mq w b F) (ht : t < 16) (hn : n < 32) (hv : F t n = some v)
    (hK : wpList Try.prog ops Q rest (a.put o.dst v) w) : wpList Try.prog ops Q (o :: rest) a w := by
  refine wpList_plain hg fun K' hK' => ?_
  have hrun := h.look ht hn
  rw [hv] at hrun
  unfold Oper.wp
  simp [execOp, hop, hm, hx, hrun, Result.andThen]
  exact hK' _ _ hK
theorem Sp.head {w : World} {sb : Nat} {R : List Nat} {T S : Nat} {M : Nat → Nat} {L : El} {mb : Nat} {g cap : Nat → Nat → Nat} (h : Sp w sb R T S M L mb g cap) {t n : Nat} (hn : 16 ≤ n) (hq : q L t n ≠ []) : w.cell? ⟨g t n, 0, none⟩ = some (.int .i64 (hdv L t n)) := by
  obtain ⟨hns, -⟩ := h.row t n hn hq
  have hp : 0 < (q L t n).length := List.length_pos_iff.2 hq
  obtain ⟨g', e, hc, -⟩ := hns.at hp rfl
  simp only [Option.some.injEq, Addr.mk.injEq, and_true] at e
  subst e
  rw [hc]
  unfold hdv
  cases hc : q L t n with
  | nil => exact (hq hc).elim
  | cons a r => rfl
theorem Fq_yes {L : El} {g cap : Nat → Nat → Nat} {t n : Nat} (hn : 16 ≤ n) (hq : q L t n ≠ []) : Fq L g cap t n = some (.slice (some ⟨g t n, 0, none⟩) (q L t n).length (cap t n)) := by
  unfold Fq
  rw [if_pos ⟨hn, hq⟩]
set_option maxRecDepth 100000 in
theorem peek_queue (w : World) (sb : Nat) (R : List Nat) (T S : Nat) (M : Nat → Nat) (L : El) (t : Nat) (W n : Nat) (hW : W < 4294967296) (h : Sg w sb R T S M L) (ht : t < T) (hl : low L t W = n) (hn : 16 ≤ n) (hn2 : n ≤ 31) : Calls Try.prog 23 #[.pointer (some ⟨sb, 0, none⟩), .int .i64 t, .int .u32 W] w fun e w' => e = .returned (.tuple #[Sv n (hdv L t n), .bool true]) ∧ Kp w w' [] := by
  unfold Sv
  have HK := hid (Kp.alloc w (.cells #[.int .i64 0, .int .i64 0] 47) [])
  have H := hid (pending_yes _ sb R T S M L t (h.same HK.out) ht)
  have hb := and_bits (h.pp t) hW
  have hlt : pend L t &&& W < 4294967296 := Nat.lt_of_le_of_lt Nat.and_le_left (h.pp t)
  have K := lowest_any (w.alloc (.cells #[.int .i64 0, .int .i64 0] 47)) _ hlt
  rw [← low_S, hl, decide_eq_true (show n ≤ 31 by omega)] at K
  have K := hid K
  have Q := hid (fun w => queues_any w n)
  have hd : decide (15 < (n : Int)) = true := by simp; omega
  rw [hd] at Q
  have hq : q L t n ≠ [] := by
    have := (low_some (L := L) (t := t) (W := W) (by omega)).2.2.1
    rw [hl] at this
    exact this
  have t2 := h.bd.1.2
  obtain ⟨mb, g, cap, h⟩ := h
  have hhd := h.head hn hq
  have hsb := h.c.lt
  have c34 := h.c.mp
  obtain ⟨cur, hgb⟩ := h.own hn hq
  have hglt := lt_of_block hgb
  have hF := Fq_yes (g := g) (cap := cap) hn hq
  have HM := hid (fun (z : World) (hk : Kp w z []) => h.m.keep hk (by simp))
  have hp : 0 < (q L t n).length := List.length_pos_iff.2 hq
  have hm1 : mb < w.heap.size := by
    obtain ⟨es, cl, hm⟩ := h.m.obj
    exact lt_of_block hm
  have ht16 : t < 16 := by omega
  have hn32 : n < 32 := by omega
  clear h hlt hl ht hd hgb
  generalize pend L t = x at H hb K
  generalize x &&& W = y at hb K
  generalize hdv L t n = v at hhd ⊢
  generalize Fq L g cap = F at hF HM
  generalize (q L t n).length = N at hF hp
  go_enter Try.func23, Try.ntmps23
  go_wp2_with fail
  refine H.out.mono ?_
  rintro e w1 ⟨rfl, hw⟩; obtain rfl := hw.symm
  go_wp2_with fail
  refine K.out.mono ?_
  rintro e w1 ⟨rfl, hw⟩; obtain rfl := hw.symm
  go_wp2_with fail
  refine (Q.out _).mono ?_
  rintro e w1 ⟨rfl, hw⟩; obtain rfl := hw.symm
  clear H K Q
  go_wp2_with (first | (at_lookup; refine wpList_look rfl _ _ rfl mb F t n _ rfl rfl (HM.out _ ((Kp.alloc _ _ _).trans (Kp.alloc _ _ _))) ht16 hn32 hF ?_) | fail)
  refine bodyPost_ret (results_cell_row2 rfl _ _ w.heap.size 47 #[.int .i64 n, .int .i64 v] (0, 0) _ rfl ?_ Try.underlying47 rfl (size47 _ _)) rfl ?_
  · exact alloc_two _ _ _
  exact ⟨rfl, (Kp.alloc _ _ _).trans (Kp.alloc _ _ _)⟩
theorem Sg.value {w : World} {sb : Nat} {R : List Nat} {T S : Nat} {M : Nat → Nat} {L : El} (h : Sg w sb R T S M L) {t n : Nat} (hn : n < 16) (hq : q L t n ≠ []) : hdv L t n = 0 := by
  unfold hdv
  rw [h.ok.plain hn hq]
  rfl
/-- Peek, of any thread within any set. -/
theorem peek_any (w : World) (sb : Nat) (R : List Nat) (T S : Nat) (M : Nat → Nat) (L : El) (t : Int) (W : Nat) (hW : W < 4294967296) (h : Sg w sb R T S M L) : Calls Try.prog 23 #[.pointer (some ⟨sb, 0, none⟩), .int .i64 t, .int .u32 W] w fun e w' => e = .returned (.tuple #[nxV T L t W, .bool (nxB T L t W)]) ∧ Kp w w' [] := by
  unfold nxV nxB
  by_cases hn : nxN T L t W ≤ 31
  · rw [if_pos hn, decide_eq_true hn]
    obtain ⟨k, rfl, hk, e⟩ := nxN_yes hn
    rw [e] at hn ⊢
    have hs := low_some (L := L) (t := k) (W := W) (by omega)
    by_cases h16 : low L k W < 16
    · have := peek_plain w sb R T S M L k W _ hW h hk rfl h16
      rw [show hdv L ((k : Int).toNat) (low L k W) = 0 from h.value h16 hs.2.2.1]
      exact this
    · exact peek_queue w sb R T S M L k W _ hW h hk rfl (by omega) hn
  · rw [if_neg hn, decide_eq_false hn]
    exact peek_none w sb R T S M L t W hW h hn
end Go.Proofs.Ytoenipaccnpihaa
