/- A queue in memory, by the blocks that it writes; what looks at it. -/
import Derived.BigQuiet
import Derived.Test.YtllkopekfanfaaaDe
namespace Go.Proofs.Ytllkopekfanfaaa
open Go.RowKit Go.Shelf Go.Lib Go.Sort Go.Maps
attribute [local go_sem] Oper.semAt_some

/-- Its block. -/
abbrev qcells (n : Int) (V : Value) (mb a b : Nat) : Array Value := #[.int .i64 n, V, .map (some mb), .pointer (some ⟨a, 0, none⟩), .pointer (some ⟨b, 0, none⟩)]
structure Qi (w : World) (qb mb a b : Nat) (V : Value) (Ra Rb : List Nat) (M : Qs) : Prop where
  hh : w.heap[qb]? = some (.cells (qcells M.n V mb a b) 64 (0, 0))
  ms : Mr w 0 V M.L
  mp : Mm w mb M.f
  wa : Wr w a Ra M.s
  wb : Wr w b Rb M.r
  na : mb ∉ Ra
  nb : mb ∉ Rb
  ap : ∀ k ∈ Ra, k ∉ Rb
  lo : 1 ≤ M.n
  hi : M.n ≤ 32
  len : (M.L.length : Int) ≤ M.n
abbrev qrows (qb mb : Nat) (V : Value) (Ra Rb : List Nat) : List Nat := qb :: mb :: (V.ownBlock.toList ++ (Ra ++ Rb))
/-- A queue, by the blocks that it writes. -/
def Qc (w : World) (qb : Nat) (R : List Nat) (M : Qs) : Prop := ∃ mb a b V Ra Rb, R = qrows qb mb V Ra Rb ∧ Qi w qb mb a b V Ra Rb M
variable {w w' : World} {qb mb a b : Nat} {V : Value} {Ra Rb R : List Nat} {M : Qs}
theorem Wr.notT {w : World} {wb : Nat} {R : List Nat} {L : List Dl} (h : Wr w wb R L) {k : Nat} (hk : k ∈ R) {c : Array Value} {t : TypeId} (e : w.heap[k]? = some (.cells c t (0, 0))) : t = 100 ∨ t = 3 := by
  obtain ⟨pb, V, rfl, h⟩ := h
  obtain ⟨P, hP, -⟩ := h.mp
  obtain ⟨es, cl, hp⟩ := hP.obj
  simp only [rows, List.mem_cons, Option.mem_toList] at hk
  rcases hk with rfl | rfl | hk
  · rw [h.hh] at e
    simp at e
    exact .inl e.2.symm
  · rw [hp] at e
    simp at e
  · obtain ⟨cur, hc⟩ := h.own hk
    rw [hc] at e
    simp at e
    exact .inr e.2.symm
theorem Qi.vb (h : Qi w qb mb a b V Ra Rb M) {g : Nat} (hg : V.ownBlock = some g) : ∃ cur, w.heap[g]? = some (.cells cur 34 (0, 0)) := (owns_block h.ms hg).2
theorem Qi.offq (h : Qi w qb mb a b V Ra Rb M) : qb ≠ mb ∧ qb ∉ Ra ∧ qb ∉ Rb ∧ ∀ g, V.ownBlock = some g → g ≠ qb := by
  obtain ⟨es, cl, hp⟩ := h.mp.obj
  have hb := h.hh
  refine ⟨?_, fun hm => ?_, fun hm => ?_, fun g hg => ?_⟩
  · rintro rfl
    rw [hb] at hp
    cases hp
  · rcases h.wa.notT hm hb with e | e <;> cases e
  · rcases h.wb.notT hm hb with e | e <;> cases e
  · obtain ⟨cur, hc⟩ := h.vb hg
    rintro rfl
    rw [hb] at hc
    simp at hc
theorem Qi.offv (h : Qi w qb mb a b V Ra Rb M) {g : Nat} (hg : V.ownBlock = some g) : g ≠ mb ∧ g ∉ Ra ∧ g ∉ Rb := by
  obtain ⟨es, cl, hp⟩ := h.mp.obj
  obtain ⟨cur, hc⟩ := h.vb hg
  refine ⟨?_, fun hm => ?_, fun hm => ?_⟩
  · rintro rfl
    rw [hc] at hp
    cases hp
  · rcases h.wa.notT hm hc with e | e <;> cases e
  · rcases h.wb.notT hm hc with e | e <;> cases e
theorem Qi.lt (h : Qi w qb mb a b V Ra Rb M) : ∀ k ∈ qrows qb mb V Ra Rb, k < w.heap.size := by
  obtain ⟨es, cl, hp⟩ := h.mp.obj
  intro k hk
  simp only [List.mem_cons, List.mem_append, Option.mem_toList] at hk
  rcases hk with rfl | rfl | hk | hk | hk
  · exact lt_of_block h.hh
  · exact lt_of_block hp
  · obtain ⟨cur, hc⟩ := h.vb hk
    exact lt_of_block hc
  · exact h.wa.lt k hk
  · exact h.wb.lt k hk
theorem Qi.keep (h : Qi w qb mb a b V Ra Rb M) {rs : List Nat} (hk : Kp w w' rs) (hr : ∀ k ∈ qrows qb mb V Ra Rb, k ∉ rs) : Qi w' qb mb a b V Ra Rb M :=
  ⟨(hk.block qb (lt_of_block h.hh) (hr qb (by simp))).trans h.hh, h.ms.kp hk (fun g hg => hr g (by simp [hg])), h.mp.keep hk (hr mb (by simp)), h.wa.keep hk (fun k hm => hr k (by simp [hm])), h.wb.keep hk (fun k hm => hr k (by simp [hm])), h.na, h.nb, h.ap, h.lo, h.hi, h.len⟩
theorem Qi.same (h : Qi w qb mb a b V Ra Rb M) (hk : Kp w w' []) : Qi w' qb mb a b V Ra Rb M := h.keep hk (by simp)
theorem Qi.qc (h : Qi w qb mb a b V Ra Rb M) : Qc w qb (qrows qb mb V Ra Rb) M := ⟨mb, a, b, V, Ra, Rb, rfl, h⟩
theorem Qi.c0 (h : Qi w qb mb a b V Ra Rb M) : w.cell? ⟨qb, 0, none⟩ = some (.int .i64 M.n) := by simp [World.cell?, h.hh]
theorem Qi.c1 (h : Qi w qb mb a b V Ra Rb M) : w.cell? ⟨qb, 1, none⟩ = some V := by simp [World.cell?, h.hh]
theorem Qi.c2 (h : Qi w qb mb a b V Ra Rb M) : w.cell? ⟨qb, 2, none⟩ = some (.map (some mb)) := by simp [World.cell?, h.hh]
theorem Qi.c3 (h : Qi w qb mb a b V Ra Rb M) : w.cell? ⟨qb, 3, none⟩ = some (.pointer (some ⟨a, 0, none⟩)) := by simp [World.cell?, h.hh]
theorem Qi.c4 (h : Qi w qb mb a b V Ra Rb M) : w.cell? ⟨qb, 4, none⟩ = some (.pointer (some ⟨b, 0, none⟩)) := by simp [World.cell?, h.hh]
theorem Qi.free (h : Qi w qb mb a b V Ra Rb M) (i : Nat) : w.frozen? ⟨qb, i, none⟩ = false := by simp [World.frozen?, h.hh]
theorem Qc.lt (h : Qc w qb R M) : ∀ k ∈ R, k < w.heap.size := by
  obtain ⟨mb, a, b, V, Ra, Rb, rfl, h⟩ := h
  exact h.lt
theorem Qc.keep (h : Qc w qb R M) {rs : List Nat} (hk : Kp w w' rs) (hr : ∀ k ∈ R, k ∉ rs) : Qc w' qb R M := by
  obtain ⟨mb, a, b, V, Ra, Rb, rfl, h⟩ := h
  exact (h.keep hk hr).qc
theorem Qc.same (h : Qc w qb R M) (hk : Kp w w' []) : Qc w' qb R M := h.keep hk (by simp)
theorem Qc.mem (h : Qc w qb R M) : qb ∈ R := by
  obtain ⟨mb, a, b, V, Ra, Rb, rfl, h⟩ := h
  simp
/-- No block of the reference's is among them. -/
theorem Qc.kind (h : Qc w qb R M) : ∀ k ∈ R, ∀ c t, w.heap[k]? = some (.cells c t (0, 0)) → t = 64 ∨ t = 34 ∨ t = 100 ∨ t = 3 := by
  obtain ⟨mb, a, b, V, Ra, Rb, rfl, h⟩ := h
  obtain ⟨es, cl, hp⟩ := h.mp.obj
  intro k hk c t e
  simp only [List.mem_cons, List.mem_append, Option.mem_toList] at hk
  rcases hk with rfl | rfl | hk | hk | hk
  · rw [h.hh] at e
    simp at e
    exact .inl e.2.symm
  · rw [hp] at e
    simp at e
  · obtain ⟨cur, hc⟩ := h.vb hk
    rw [hc] at e
    simp at e
    exact .inr (.inl e.2.symm)
  · exact .inr (.inr (h.wa.notT hk e))
  · exact .inr (.inr (h.wb.notT hk e))
/-- What a call leaves. -/
def To (w w' : World) (qb : Nat) (R : List Nat) (M : Qs) : Prop := ∃ R', Qc w' qb R' M ∧ Nw w R R' ∧ Kp w w' R
theorem To.stay (h : Qc w qb R M) (hk : Kp w w' []) : To w w' qb R M := ⟨R, h.same hk, Nw.refl _ _, hk.nil⟩
theorem To.trans {w1 w2 : World} {M1 M2 : Qs} (h : To w w1 qb R M1) (h' : ∀ R1, Qc w1 qb R1 M1 → To w1 w2 qb R1 M2) : To w w2 qb R M2 := by
  obtain ⟨R1, s1, n1, k1⟩ := h
  obtain ⟨R2, s2, n2, k2⟩ := h' R1 s1
  refine ⟨R2, s2, n1.trans n2 k1.size, k1.past k2 (fun k hk hl => ?_)⟩
  rcases n1 k hk with q | q
  · exact q
  · omega
theorem To.more {w2 : World} (h : To w w' qb R M) (hk : Kp w' w2 []) : To w w2 qb R M := h.trans fun _ s => To.stay s hk
theorem To.first {w0 : World} (hk : Kp w0 w []) (h : To w w' qb R M) : To w0 w' qb R M := by
  obtain ⟨R1, s1, n1, k1⟩ := h
  exact ⟨R1, s1, fun k hm => (n1 k hm).imp id (fun h => Nat.le_trans hk.size h), hk.nil.trans k1⟩
theorem To.kp (h : To w w' qb R M) : Kp w w' R := by
  obtain ⟨_, _, _, h⟩ := h
  exact h
theorem set_five1 {w : World} {r : Nat} {x a b c d e : Value} {t : TypeId} (h : w.heap[r]? = some (.cells #[a, b, c, d, e] t (0, 0))) : (w.setCell ⟨r, 1, none⟩ x).heap[r]? = some (.cells #[a, x, c, d, e] t (0, 0)) := by
  rw [heap_setCell_same w r 1 _ t x h]
  rfl
/-- The messages have changed, and are stored. -/
theorem to_msgs {V' : Value} {L' : Ml} (h : Qi w qb mb a b V Ra Rb M) (hk : Kp w w' V.ownBlock.toList) (hm : Mr w' 0 V' L') (hv : V'.ownBlock = V.ownBlock ∨ V'.ownBlock = some w.heap.size) (hl : (L'.length : Int) ≤ M.n) : To w (w'.setCell ⟨qb, 1, none⟩ V') qb (qrows qb mb V Ra Rb) { M with L := L' } := by
  have hq := h.offq
  have hlt := h.lt
  have hs := Kp.setCell w' ⟨qb, 1, none⟩ V'
  have hlt' : ∀ k ∈ qrows qb mb V Ra Rb, k < w'.heap.size := fun k hm => Nat.lt_of_lt_of_le (hlt k hm) hk.size
  have hoff : ∀ k ∈ mb :: (Ra ++ Rb), k ∉ V.ownBlock.toList := fun k hm hv => by
    simp only [Option.mem_toList] at hv
    have := h.offv hv
    simp only [List.mem_cons, List.mem_append] at hm
    rcases hm with e | hm | hm
    · exact this.1 e
    · exact this.2.1 hm
    · exact this.2.2 hm
  have hb : w'.heap[qb]? = some (.cells (qcells M.n V mb a b) 64 (0, 0)) := (hk.block qb (hlt qb (by simp)) (by simp only [Option.mem_toList]; exact fun hv => hq.2.2.2 qb hv rfl)).trans h.hh
  have hqa : ∀ k ∈ mb :: (Ra ++ Rb), k ∉ [qb] := fun k hm e => by
    simp only [List.mem_singleton] at e
    subst e
    simp only [List.mem_cons, List.mem_append] at hm
    rcases hm with e | hm | hm
    · exact hq.1 e
    · exact hq.2.1 hm
    · exact hq.2.2.1 hm
  have hvq : ∀ g, V'.ownBlock = some g → g ≠ qb := fun g hg e => by
    subst e
    rcases hv with e | e
    · exact hq.2.2.2 _ (e ▸ hg) rfl
    · rw [e] at hg
      have := hlt g (by simp)
      simp only [Option.some.injEq] at hg
      omega
  refine ⟨qrows qb mb V' Ra Rb, ⟨mb, a, b, V', Ra, Rb, rfl, set_five1 hb, hm.kp hs (fun g hg e => by simp only [List.mem_singleton] at e; exact hvq g hg e),
    (h.mp.keep hk (hoff mb (by simp))).keep hs (hqa mb (by simp)), (h.wa.keep hk (fun k hm => hoff k (by simp [hm]))).keep hs (fun k hm => hqa k (by simp [hm])), (h.wb.keep hk (fun k hm => hoff k (by simp [hm]))).keep hs (fun k hm => hqa k (by simp [hm])),
    h.na, h.nb, h.ap, h.lo, h.hi, hl⟩, fun k hm => ?_, ?_⟩
  · simp only [List.mem_cons, List.mem_append, Option.mem_toList] at hm ⊢
    rcases hm with e | e | e | e | e
    · exact .inl (.inl e)
    · exact .inl (.inr (.inl e))
    · rcases hv with q | q
      · exact .inl (.inr (.inr (.inl (q ▸ e))))
      · rw [q] at e
        simp only [Option.some.injEq] at e
        exact .inr (by omega)
    · exact .inl (.inr (.inr (.inr (.inl e))))
    · exact .inl (.inr (.inr (.inr (.inr e))))
  · refine (hk.mono (fun k hm _ => by simp only [List.mem_cons, List.mem_append]; exact .inr (.inr (.inl hm)))).trans (hs.mono (fun k hm _ => ?_))
    simp only [List.mem_singleton] at hm
    simp [hm]
/-- What those who wait have to send has changed. -/
theorem to_map {M' : Qs} (h : Qi w qb mb a b V Ra Rb M) (hm : Mm w' mb M'.f) (hk : Kp w w' [mb]) (e1 : M'.n = M.n) (e2 : M'.L = M.L) (e3 : M'.s = M.s) (e4 : M'.r = M.r) : Qi w' qb mb a b V Ra Rb M' ∧ Kp w w' (qrows qb mb V Ra Rb) := by
  have ho := h.offq
  refine ⟨⟨by rw [e1]; exact (hk.block qb (lt_of_block h.hh) (by simp; exact ho.1)).trans h.hh, e2 ▸ h.ms.kp hk (fun g hg e => by simp only [List.mem_singleton] at e; exact (h.offv hg).1 e), hm, e3 ▸ h.wa.keep hk (fun k hx e => ?_), e4 ▸ h.wb.keep hk (fun k hx e => ?_), h.na, h.nb, h.ap, by rw [e1]; exact h.lo, by rw [e1]; exact h.hi, by rw [e1, e2]; exact h.len⟩, hk.mono (fun k hm _ => by simp only [List.mem_singleton] at hm; simp [hm])⟩
  · simp only [List.mem_singleton] at e
    subst e
    exact h.na hx
  · simp only [List.mem_singleton] at e
    subst e
    exact h.nb hx
theorem nw_new {R1 : List Nat} (hn : Nw w Ra R1) {k : Nat} (hk : k ∈ R1) (hd : k ∉ Ra) : w.heap.size ≤ k := (hn k hk).resolve_left hd
/-- Who waits to send has changed. -/
theorem to_s {L : List Dl} {R1 : List Nat} (h : Qi w qb mb a b V Ra Rb M) (h1 : Wr w' a R1 L) (hn : Nw w Ra R1) (hk : Kp w w' Ra) : Qi w' qb mb a b V R1 Rb { M with s := L } ∧ Nw w (qrows qb mb V Ra Rb) (qrows qb mb V R1 Rb) ∧ Kp w w' (qrows qb mb V Ra Rb) := by
  have ho := h.offq
  have hlt := h.lt
  refine ⟨⟨(hk.block qb (lt_of_block h.hh) ho.2.1).trans h.hh, h.ms.kp hk (fun g hg => (h.offv hg).2.1), h.mp.keep hk h.na, h1, h.wb.keep hk (fun k hx e => h.ap k e hx), fun hm => ?_, h.nb, fun k hm hx => ?_, h.lo, h.hi, h.len⟩, fun k hm => ?_, hk.mono (fun k hm _ => by simp [hm])⟩
  · have := nw_new hn hm h.na
    have := hlt mb (by simp)
    omega
  · have := nw_new hn hm (fun e => h.ap k e hx)
    have := hlt k (by simp [hx])
    omega
  · simp only [List.mem_cons, List.mem_append] at hm ⊢
    rcases hm with e | e | e | e | e
    · exact .inl (.inl e)
    · exact .inl (.inr (.inl e))
    · exact .inl (.inr (.inr (.inl e)))
    · exact (hn k e).imp (fun q => .inr (.inr (.inr (.inl q)))) id
    · exact .inl (.inr (.inr (.inr (.inr e))))
/-- Who waits to receive has changed. -/
theorem to_r {L : List Dl} {R1 : List Nat} (h : Qi w qb mb a b V Ra Rb M) (h1 : Wr w' b R1 L) (hn : Nw w Rb R1) (hk : Kp w w' Rb) : Qi w' qb mb a b V Ra R1 { M with r := L } ∧ Nw w (qrows qb mb V Ra Rb) (qrows qb mb V Ra R1) ∧ Kp w w' (qrows qb mb V Ra Rb) := by
  have ho := h.offq
  have hlt := h.lt
  refine ⟨⟨(hk.block qb (lt_of_block h.hh) ho.2.2.1).trans h.hh, h.ms.kp hk (fun g hg => (h.offv hg).2.2), h.mp.keep hk h.nb, h.wa.keep hk (fun k hx e => h.ap k hx e), h1, h.na, fun hm => ?_, fun k hm hx => ?_, h.lo, h.hi, h.len⟩, fun k hm => ?_, hk.mono (fun k hm _ => by simp [hm])⟩
  · have := nw_new hn hm h.nb
    have := hlt mb (by simp)
    omega
  · have := nw_new hn hx (fun e => h.ap k hm e)
    have := hlt k (by simp [hm])
    omega
  · simp only [List.mem_cons, List.mem_append] at hm ⊢
    rcases hm with e | e | e | e | e
    · exact .inl (.inl e)
    · exact .inl (.inr (.inl e))
    · exact .inl (.inr (.inr (.inl e)))
    · exact .inl (.inr (.inr (.inr (.inl e))))
    · exact (hn k e).imp (fun q => .inr (.inr (.inr (.inr q)))) id
theorem Qi.to (h : Qi w' qb mb a b V Ra Rb M) {R : List Nat} (hn : Nw w R (qrows qb mb V Ra Rb)) (hk : Kp w w' R) : To w w' qb R M := ⟨_, h.qc, hn, hk⟩
/-- None: nil, or a zero one. -/
def Zq (w : World) (p : Option Addr) : Prop := p = none ∨ ∃ b, p = some ⟨b, 0, none⟩ ∧ w.heap[b]? = some (.cells #[.int .i64 0, .slice none 0 0, .map none, .pointer none, .pointer none] 64 (0, 0))
theorem Zq.keep {p : Option Addr} (h : Zq w p) (hk : Kp w w' []) : Zq w' p := by
  rcases h with h | ⟨b, e, h⟩
  · exact .inl h
  · exact .inr ⟨b, e, (hk.block b (lt_of_block h) (by simp)).trans h⟩
theorem z_none (w : World) : Zw w none := .inl rfl
set_option maxRecDepth 100000 in
/-- isZero. -/
theorem zeroQ_no (w : World) (qb : Nat) (R : List Nat) (M : Qs) (h : Qc w qb R M) : Calls Try.prog 39 #[.pointer (some ⟨qb, 0, none⟩)] w fun e w' => e = .returned (.bool false) ∧ w' = w := by
  obtain ⟨mb, a, b, V, Ra, Rb, rfl, h⟩ := h
  have c0 := h.c0
  have hz : (M.n == 0) = false := by have := h.lo; rw [beq_eq_false_iff_ne]; omega
  clear h
  go_enter Try.func39, Try.ntmps39
  go_wp2
  go_ret
  exact ⟨rfl, rfl⟩
set_option maxRecDepth 100000 in
theorem zeroQ_yes (w : World) (p : Option Addr) (h : Zq w p) : Calls Try.prog 39 #[.pointer p] w fun e w' => e = .returned (.bool true) ∧ w' = w := by
  rcases h with rfl | ⟨b, rfl, h⟩
  · go_enter Try.func39, Try.ntmps39
    go_wp2
    go_ret
    exact ⟨rfl, rfl⟩
  · have c0 : w.cell? ⟨b, 0, none⟩ = some (.int .i64 0) := by simp [World.cell?, h]
    clear h
    go_enter Try.func39, Try.ntmps39
    go_wp2
    go_ret
    exact ⟨rfl, rfl⟩
end Go.Proofs.Ytllkopekfanfaaa
