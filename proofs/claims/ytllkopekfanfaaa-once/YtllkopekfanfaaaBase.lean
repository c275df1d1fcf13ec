/- A waiting list in memory; isZero, mayBeThread, mayBePrio, Prio, Has, Len, New. -/
import Derived.Test.YtllkopekfanfaaaNums
import Derived.Test.YtllkopekfanfaaaPlain
import Derived.Deep.RegionHeldLaw
namespace Go.Proofs.Ytllkopekfanfaaa
open Go.RowKit Go.Shelf Go.Lib Go.Sort Go.Maps

/-- A map of ints. -/
def Mp (w : World) (b : Nat) (P : Pcs) : Prop := w.ownsMap (H := Unit) Try.prog 3 (plainElem Try.prog 3) b P.length (dat P)
theorem Mp.keep {w w' : World} {b : Nat} {P : Pcs} (h : Mp w b P) {rows : List Nat} (hk : Kp w w' rows) (h1 : b ∉ rows) : Mp w' b P := by
  obtain ⟨es, clock, hb, F, hs, hD⟩ := h
  exact ⟨es, clock, (hk.block b (lt_of_block hb) h1).trans hb, F, hs, hD⟩
theorem Mp.of_owns {w : World} {b n : Nat} {P : Pcs} (h : w.ownsMap (H := Unit) Try.prog 3 (plainElem Try.prog 3) b n (dat P)) : Mp w b P := by
  obtain ⟨es, clock, hb, F, hs, hD⟩ := h
  refine ⟨es, clock, hb, F, ?_, hD⟩
  have := congrArg Maps.size hD
  rw [dat_size, Maps.size_eq, length_sorted] at this
  simp at this
  omega
theorem keyed3 : Keyed Try.prog 3 := int_keyed Try.underlying3
theorem Mp.rises {w : World} {b : Nat} {P : Pcs} (h : Mp w b P) : Rises P := rises_of_canon (World.ownsMap.canon h keyed3)
theorem Mp.obj {w : World} {b : Nat} {P : Pcs} (h : Mp w b P) : ∃ es clock, w.heap[b]? = some (.map es clock) := by
  obtain ⟨es, clock, hb, -⟩ := h
  exact ⟨es, clock, hb⟩
theorem wf64 {k : Int} (h0 : -9223372036854775808 ≤ k) (h1 : k ≤ 9223372036854775807) : (Lit.int .i64 k).wf = true := by
  have e : IntKind.i64.min = -9223372036854775808 := by decide
  simp [Lit.wf, e]
  omega
theorem Mp.look {w : World} {b : Nat} {P : Pcs} (h : Mp w b P) {k : Int} (h0 : -9223372036854775808 ≤ k) (h1 : k ≤ 9223372036854775807) :
    (Instr.lookup 98 (.map (some b)) (.int .i64 k) true).run Try.prog w = .ok (.tuple #[.int .i64 (getP P k), .bool (hasP P k)]) w := by
  obtain ⟨v, ps, hrun, hv⟩ := World.ownsMap.look_ok h keyed3 Try.underlying98 (Try.zeroValue3 _) (plainElem_int Try.underlying3 (wf64 (k := 0) (by decide) (by decide))) (keyOf_int_mk Try.underlying3 (wf64 h0 h1))
  rw [dat_at] at hv
  rw [dat_has] at hrun
  obtain ⟨c, rfl, hc, -⟩ := plainElem_int_inv Try.underlying3 hv
  simp only [Prod.mk.injEq, DataW.lit.injEq, Lit.int.injEq, true_and] at hc
  rw [hc.1]
  exact hrun
theorem Mp.look1 {w : World} {b : Nat} {P : Pcs} (h : Mp w b P) {k : Int} (h0 : -9223372036854775808 ≤ k) (h1 : k ≤ 9223372036854775807) :
    (Instr.lookup 98 (.map (some b)) (.int .i64 k) false).run Try.prog w = .ok (.int .i64 (getP P k)) w := by
  obtain ⟨c, hrun, hc, -⟩ := World.ownsMap.lookup_int h keyed3 Try.underlying98 Try.underlying3 (Try.zeroValue3 _) (keyOf_int_mk Try.underlying3 (wf64 h0 h1))
  rw [dat_at] at hc
  simp only [DataW.lit.injEq, Lit.int.injEq, true_and] at hc
  rw [hc]
  exact hrun
theorem Kp.turned {w w' : World} {b : Nat} (h : w.mapTurned w' b) : Kp w w' [b] := by
  have h := World.mapTurned.grown h
  exact ⟨h.os, h.tape, h.output, h.size, fun k hk hn => h.block k hk (by simp at hn ⊢; exact hn)⟩
theorem Mp.store {w : World} {b : Nat} {P : Pcs} (h : Mp w b P) {k v : Int} (h0 : -9223372036854775808 ≤ k) (h1 : k ≤ 9223372036854775807) (h2 : -9223372036854775808 ≤ v) (h3 : v ≤ 9223372036854775807) (hn : P.length < maxLen) :
    ∃ w', (Instr.mapUpdate 98 (.map (some b)) (.int .i64 k) (.int .i64 v)).run Try.prog w = .ok () w' ∧ Mp w' b (putP P k v) ∧ Kp w w' [b] := by
  obtain ⟨w', hrun, r1, r2⟩ := World.ownsMap.store h keyed3 Try.underlying98 hn (keyOf_int_mk Try.underlying3 (wf64 h0 h1)) (plainElem_int Try.underlying3 (wf64 h2 h3))
  rw [dat_put] at r1
  exact ⟨w', hrun, Mp.of_owns r1, Kp.turned r2⟩
theorem Mp.drop {w : World} {b : Nat} {P : Pcs} (h : Mp w b P) {k : Int} (h0 : -9223372036854775808 ≤ k) (h1 : k ≤ 9223372036854775807) (ty : TypeId) :
    ∃ w', (Builtin.delete_ #[98, 3] ty #[.map (some b), .int .i64 k]).run Try.prog w = .ok (.tuple #[]) w' ∧ Mp w' b (delP P k) ∧ Kp w w' [b] := by
  obtain ⟨w', hrun, r1, r2⟩ := World.ownsMap.drop h keyed3 Try.underlying98 (keyOf_int_mk Try.underlying3 (wf64 h0 h1)) ty
  rw [dat_del] at r1
  exact ⟨w', hrun, Mp.of_owns r1, Kp.turned r2⟩

/-- What a waiting list is in memory: its struct, the map, the threads as they came. -/
structure Wt (w : World) (wb pb : Nat) (V : Value) (L : List Dl) : Prop where
  hh : w.heap[wb]? = some (.cells #[.map (some pb), V] 100 (0, 0))
  mp : ∃ P : Pcs, Mp w pb P ∧ P.Perm L
  ns : Ns w 0 V (L.map (·.1))
  ok : okL L
/-- The blocks that it writes. -/
def rows (wb pb : Nat) (V : Value) : List Nat := wb :: pb :: V.ownBlock.toList
/-- No list: nil, or a zero one. -/
def Zw (w : World) (p : Option Addr) : Prop := p = none ∨ ∃ b V, p = some ⟨b, 0, none⟩ ∧ w.heap[b]? = some (.cells #[.map none, V] 100 (0, 0))
/-- What a pointer shows. -/
def Vw (w : World) (p : Option Addr) (L : List Dl) : Prop := (∃ wb pb V, p = some ⟨wb, 0, none⟩ ∧ Wt w wb pb V L) ∨ (Zw w p ∧ L = [])

theorem cell_two0 {w : World} {r : Nat} {u v : Value} {t : TypeId} (h : w.heap[r]? = some (.cells #[u, v] t (0, 0))) : w.cell? ⟨r, 0, none⟩ = some u := by simp [World.cell?, h]
theorem cell_two1 {w : World} {r : Nat} {u v : Value} {t : TypeId} (h : w.heap[r]? = some (.cells #[u, v] t (0, 0))) : w.cell? ⟨r, 1, none⟩ = some v := by simp [World.cell?, h]
theorem free_two {w : World} {r : Nat} {u v : Value} {t : TypeId} (h : w.heap[r]? = some (.cells #[u, v] t (0, 0))) (i : Nat) : w.frozen? ⟨r, i, none⟩ = false := by simp [World.frozen?, h]
theorem Wt.own {w : World} {wb pb : Nat} {V : Value} {L : List Dl} (h : Wt w wb pb V L) {g : Nat} (hg : V.ownBlock = some g) : ∃ cur, w.heap[g]? = some (.cells cur 3 (0, 0)) := (owns_block h.ns hg).2
theorem Wt.lt {w : World} {wb pb : Nat} {V : Value} {L : List Dl} (h : Wt w wb pb V L) : wb < w.heap.size ∧ pb < w.heap.size ∧ ∀ g, V.ownBlock = some g → g < w.heap.size := by
  obtain ⟨P, hP, -⟩ := h.mp
  obtain ⟨es, c, hp⟩ := hP.obj
  refine ⟨lt_of_block h.hh, lt_of_block hp, fun g hg => ?_⟩
  obtain ⟨cur, hc⟩ := h.own hg
  exact lt_of_block hc
theorem Wt.ne {w : World} {wb pb : Nat} {V : Value} {L : List Dl} (h : Wt w wb pb V L) : wb ≠ pb ∧ ∀ g, V.ownBlock = some g → g ≠ wb ∧ g ≠ pb := by
  obtain ⟨P, hP, -⟩ := h.mp
  obtain ⟨es, c, hp⟩ := hP.obj
  have hh := h.hh
  refine ⟨?_, fun g hg => ⟨?_, ?_⟩⟩
  · rintro rfl; rw [hh] at hp; cases hp
  · obtain ⟨cur, hc⟩ := h.own hg
    rintro rfl; rw [hh] at hc; simp at hc
  · obtain ⟨cur, hc⟩ := h.own hg
    rintro rfl; rw [hp] at hc; cases hc
theorem Wt.keep {w w' : World} {wb pb : Nat} {V : Value} {L : List Dl} {rs : List Nat} (h : Wt w wb pb V L) (hk : Kp w w' rs) (hr : ∀ k ∈ rows wb pb V, k ∉ rs) : Wt w' wb pb V L := by
  obtain ⟨P, hP, hp⟩ := h.mp
  exact ⟨(hk.block wb h.lt.1 (hr wb (by simp [rows]))).trans h.hh, ⟨P, hP.keep hk (hr pb (by simp [rows])), hp⟩, h.ns.kp hk (fun g hg => hr g (by simp [rows, hg])), h.ok⟩
theorem Wt.same {w w' : World} {wb pb : Nat} {V : Value} {L : List Dl} (h : Wt w wb pb V L) (hk : Kp w w' []) : Wt w' wb pb V L := h.keep hk (by simp)
theorem Wt.rowslt {w : World} {wb pb : Nat} {V : Value} {L : List Dl} (h : Wt w wb pb V L) {k : Nat} (hk : k ∈ rows wb pb V) : k < w.heap.size := by
  have hl := h.lt
  simp [rows] at hk
  rcases hk with rfl | rfl | hk
  · exact hl.1
  · exact hl.2.1
  · exact hl.2.2 k hk
theorem Zw.keep {w w' : World} {p : Option Addr} (h : Zw w p) (hk : Kp w w' []) : Zw w' p := by
  rcases h with h | ⟨b, V, e, h⟩
  · exact .inl h
  · exact .inr ⟨b, V, e, (hk.block b (lt_of_block h) (by simp)).trans h⟩
theorem Vw.keep {w w' : World} {p : Option Addr} {L : List Dl} (h : Vw w p L) (hk : Kp w w' []) : Vw w' p L := by
  rcases h with ⟨wb, pb, V, e, h⟩ | ⟨h, e⟩
  · exact .inl ⟨wb, pb, V, e, h.same hk⟩
  · exact .inr ⟨h.keep hk, e⟩
theorem Wt.vw {w : World} {wb pb : Nat} {V : Value} {L : List Dl} (h : Wt w wb pb V L) : Vw w (some ⟨wb, 0, none⟩) L := .inl ⟨wb, pb, V, rfl, h⟩
theorem Vw.ok {w : World} {p : Option Addr} {L : List Dl} (h : Vw w p L) : okL L := by
  rcases h with ⟨wb, pb, V, e, h⟩ | ⟨h, rfl⟩
  · exact h.ok
  · exact okL.nil

theorem eql_map (w : World) (p : Option Nat) : (binOp .eql 98 (.map p) (.map none)).run Try.prog w = .ok (.bool p.isNone) w := run_eql_map_nil_sl w 98 3 3 p Try.underlying98
set_option maxRecDepth 100000 in
theorem zero_no (w : World) (wb pb : Nat) (V : Value) (L : List Dl) (h : Wt w wb pb V L) : Calls Try.prog 68 #[.pointer (some ⟨wb, 0, none⟩)] w fun e w' => e = .returned (.bool false) ∧ w' = w := by
  have c0 := cell_two0 h.hh
  have hq := fun w => eql_map w (some pb)
  clear h
  go_enter Try.func68, Try.ntmps68
  go_wp2
  go_ret
  exact ⟨rfl, rfl⟩
set_option maxRecDepth 100000 in
theorem zero_yes (w : World) (p : Option Addr) (h : Zw w p) : Calls Try.prog 68 #[.pointer p] w fun e w' => e = .returned (.bool true) ∧ w' = w := by
  rcases h with rfl | ⟨b, V, rfl, h⟩
  · go_enter Try.func68, Try.ntmps68
    go_wp2
    go_ret
    exact ⟨rfl, rfl⟩
  · have c0 := cell_two0 h
    have hq := fun w => eql_map w none
    clear h
    go_enter Try.func68, Try.ntmps68
    go_wp2
    go_ret
    exact ⟨rfl, rfl⟩
set_option maxRecDepth 100000 in
theorem thread_any (w : World) (t : Int) : Calls Try.prog 73 #[.int .i64 t] w fun e w' => e = .returned (.bool (mayT t)) ∧ w' = w := by
  by_cases h0 : 0 ≤ t <;> by_cases h1 : t < 16
  all_goals (
    go_enter Try.func73, Try.ntmps73
    go_wp2
    go_ret
    exact ⟨by simp [mayT, h0, h1], rfl⟩)
set_option maxRecDepth 100000 in
theorem prio_may (w : World) (t : Int) : Calls Try.prog 74 #[.int .i64 t] w fun e w' => e = .returned (.bool (mayP t)) ∧ w' = w := by
  by_cases h0 : 1 ≤ t <;> by_cases h1 : t ≤ 31
  all_goals (
    go_enter Try.func74, Try.ntmps74
    go_wp2
    go_ret
    exact ⟨by simp [mayP, h0, h1], rfl⟩)
theorem Wt.look {w : World} {wb pb : Nat} {V : Value} {L : List Dl} (h : Wt w wb pb V L) {k : Int} (h0 : -9223372036854775808 ≤ k) (h1 : k ≤ 9223372036854775807) :
    (Instr.lookup 98 (.map (some pb)) (.int .i64 k) true).run Try.prog w = .ok (.tuple #[.int .i64 (getP L k), .bool (hasP L k)]) w := by
  obtain ⟨P, hP, hp⟩ := h.mp
  rw [← perm_has hp, ← perm_get hp h.ok.one]
  exact hP.look h0 h1
theorem Wt.look1 {w : World} {wb pb : Nat} {V : Value} {L : List Dl} (h : Wt w wb pb V L) {k : Int} (h0 : -9223372036854775808 ≤ k) (h1 : k ≤ 9223372036854775807) :
    (Instr.lookup 98 (.map (some pb)) (.int .i64 k) false).run Try.prog w = .ok (.int .i64 (getP L k)) w := by
  obtain ⟨P, hP, hp⟩ := h.mp
  rw [← perm_get hp h.ok.one]
  exact hP.look1 h0 h1
/-- A number of 64 bits. -/
def i64 (k : Int) : Prop := -9223372036854775808 ≤ k ∧ k ≤ 9223372036854775807
set_option maxRecDepth 100000 in
theorem prio_any (w : World) (p : Option Addr) (L : List Dl) (t : Int) (h : Vw w p L) (ht : i64 t) : Calls Try.prog 85 #[.pointer p, .int .i64 t] w fun e w' => e = .returned (.tuple #[.int .i64 (getP L t), .bool (hasP L t)]) ∧ w' = w := by
  rcases h with ⟨wb, pb, V, rfl, h⟩ | ⟨h, rfl⟩
  · have H := hid h
    have c0 := cell_two0 h.hh
    have hlk := h.look ht.1 ht.2
    generalize getP L t = G at hlk ⊢
    generalize hasP L t = B at hlk ⊢
    clear h ht
    go_enter Try.func85, Try.ntmps85
    go_wp2_with (go_at_call 68; refine (zero_no w wb pb V L H.out).mono ?_; rintro e w1 ⟨rfl, rfl⟩)
    go_ret2
    exact ⟨rfl, rfl⟩
  · have H := hid h
    clear h ht
    go_enter Try.func85, Try.ntmps85
    go_wp2_with (go_at_call 68; refine (zero_yes w p H.out).mono ?_; rintro e w1 ⟨rfl, rfl⟩)
    go_ret2
    exact ⟨rfl, rfl⟩
set_option maxRecDepth 100000 in
theorem has_any (w : World) (p : Option Addr) (L : List Dl) (t : Int) (h : Vw w p L) (ht : i64 t) : Calls Try.prog 65 #[.pointer p, .int .i64 t] w fun e w' => e = .returned (.bool (hasP L t)) ∧ w' = w := by
  have H := hid (prio_any w p L t h ht)
  clear h ht
  generalize getP L t = G at H
  generalize hasP L t = B at H ⊢
  go_enter Try.func65, Try.ntmps65
  go_wp2_with fail
  refine H.out.mono ?_
  rintro e w1 ⟨rfl, rfl⟩
  go_wp2
  go_ret
  exact ⟨rfl, rfl⟩
set_option maxRecDepth 100000 in
theorem new_any (w : World) : Calls Try.prog 27 #[] w fun e w' => ∃ wb pb, e = .returned (.pointer (some ⟨wb, 0, none⟩)) ∧ Wt w' wb pb (.slice none 0 0) [] ∧ w.heap.size ≤ wb ∧ w.heap.size ≤ pb ∧ Kp w w' [] := by
  have hmm := @run_makeMap Try.prog
  go_enter Try.func27, Try.ntmps27
  go_wp2
  go_ret
  refine ⟨_, w.heap.size, rfl, ⟨?_, ⟨[], ?_, .refl _⟩, Ns.nil _ _, okL.nil⟩, ?_, Nat.le_refl _, (Kp.alloc w _ []).trans (Kp.alloc _ _ [])⟩
  · have := heap_alloc_new (w.alloc (.map #[] 0)) (.cells #[.map (some w.heap.size), .slice none 0 0] 100)
    rw [show (w.alloc (.map #[] 0)).heap.size = w.heap.size + 1 by simp] at this
    exact this
  · have h1 := World.ownsMap_made (H := Unit) w Try.prog 3 (plainElem Try.prog 3)
    exact (Mp.of_owns (P := []) h1).keep (Kp.alloc _ _ []) (by simp)
  · simp
end Go.Proofs.Ytllkopekfanfaaa
