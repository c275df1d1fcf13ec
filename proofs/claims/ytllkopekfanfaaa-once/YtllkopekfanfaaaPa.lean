/- A queue and the reference's, side by side. -/
import Derived.Test.YtllkopekfanfaaaRz
import Derived.Test.YtllkopekfanfaaaSm
import Derived.Test.YtllkopekfanfaaaRcJ
namespace Go.Proofs.Ytllkopekfanfaaa
open Go.RowKit Go.Shelf Go.Lib Go.Sort Go.Maps
attribute [local go_sem] Oper.semAt_some

theorem Rf.off2 {w w' : World} {a : Nat} {L : List Dl} (h : Rf w a L) {rs : List Nat} (hk : Kp w w' rs) (hr : a ∉ rs) (hd : ∀ k ∈ rs, ∀ c, w.heap[k]? ≠ some (.cells c 103 (0, 0))) : Rf w' a L := by
  obtain ⟨v, h1, h2⟩ := h
  refine ⟨v, (hk.block a (lt_of_block h1) hr).trans h1, h2.kp hk (fun k e hm => ?_)⟩
  obtain ⟨cur, hc⟩ := (owns_block h2 e).2
  exact hd k hm cur hc
theorem Rq.away {w w' : World} {rb sb tb : Nat} {B : Option Nat} {M : Qs} (h : Rq w rb sb tb B M) {rs : List Nat} (hk : Kp w w' rs) (hr : ∀ k ∈ rb :: sb :: tb :: B.toList, k ∉ rs) (hd : ∀ k ∈ rs, ∀ c, w.heap[k]? ≠ some (.cells c 103 (0, 0))) : Rq w' rb sb tb B M := by
  obtain ⟨V, Rl, g, rfl, h⟩ := h
  exact ⟨V, Rl, g, rfl, (hk.block rb (lt_of_block h.hh) (hr rb (by simp))).trans h.hh, h.ms.kp hk (fun k e => hr k (by simp [e])), h.ord, h.msg, h.rs.off2 hk (hr sb (by simp)) hd, h.rr.off2 hk (hr tb (by simp)) hd, h.os, h.or, h.ne, h.tie, h.len⟩
theorem Rq.lt {w : World} {rb sb tb : Nat} {B : Option Nat} {M : Qs} (h : Rq w rb sb tb B M) : ∀ k ∈ rb :: sb :: tb :: B.toList, k < w.heap.size := by
  obtain ⟨V, Rl, g, rfl, h⟩ := h
  intro k hk
  have := h.lt
  simp only [List.mem_cons, Option.mem_toList] at hk
  rcases hk with rfl | rfl | rfl | hk
  · exact this.1
  · exact this.2.1
  · exact this.2.2.1
  · exact this.2.2.2 k hk
theorem Rq.kinds {w : World} {rb sb tb : Nat} {B : Option Nat} {M : Qs} (h : Rq w rb sb tb B M) : ∀ k ∈ rb :: sb :: tb :: B.toList, ∀ c, w.heap[k]? ≠ some (.cells c 103 (0, 0)) := by
  obtain ⟨V, Rl, g, rfl, h⟩ := h
  intro k hk c e
  simp only [List.mem_cons, Option.mem_toList] at hk
  rcases hk with rfl | rfl | rfl | hk
  · rw [h.hh] at e; simp at e
  · obtain ⟨v, h1, -⟩ := h.rs; rw [h1] at e; simp at e
  · obtain ⟨v, h1, -⟩ := h.rr; rw [h1] at e; simp at e
  · obtain ⟨cur, hc⟩ := h.vb hk; rw [hc] at e; simp at e
/-- Both, by the blocks that they write. -/
def Pa (w : World) (qb rb : Nat) (Q : List Nat) (M : Qs) : Prop := ∃ R sb tb B, Q = R ++ (rb :: sb :: tb :: B.toList) ∧ Qc w qb R M ∧ Rq w rb sb tb B M ∧ (∀ k ∈ R, k ∉ rb :: sb :: tb :: B.toList) ∧ Qok M
variable {w w' : World} {qb rb : Nat} {Q : List Nat} {M : Qs}
theorem Pa.ok (h : Pa w qb rb Q M) : Qok M := by
  obtain ⟨R, sb, tb, B, -, -, -, -, h⟩ := h
  exact h
theorem Qc.notD {R : List Nat} (h : Qc w qb R M) : ∀ k ∈ R, ∀ c, w.heap[k]? ≠ some (.cells c 103 (0, 0)) := fun k hk c e => by
  have := h.kind k hk c _ e
  revert this
  decide
theorem Pa.lt (h : Pa w qb rb Q M) : ∀ k ∈ Q, k < w.heap.size := by
  obtain ⟨R, sb, tb, B, rfl, h1, h2, -⟩ := h
  intro k hk
  rcases List.mem_append.1 hk with hk | hk
  · exact h1.lt k hk
  · exact h2.lt k hk
theorem Pa.kind (h : Pa w qb rb Q M) : ∀ k ∈ Q, ∀ c, w.heap[k]? ≠ some (.cells c 103 (0, 0)) := by
  obtain ⟨R, sb, tb, B, rfl, h1, h2, -⟩ := h
  intro k hk
  rcases List.mem_append.1 hk with hk | hk
  · exact h1.notD k hk
  · exact h2.kinds k hk
theorem Pa.keep (h : Pa w qb rb Q M) {rs : List Nat} (hk : Kp w w' rs) (hr : ∀ k ∈ Q, k ∉ rs) (hd : ∀ k ∈ rs, ∀ c, w.heap[k]? ≠ some (.cells c 103 (0, 0))) : Pa w' qb rb Q M := by
  obtain ⟨R, sb, tb, B, rfl, h1, h2, h3, h4⟩ := h
  exact ⟨R, sb, tb, B, rfl, h1.keep hk (fun k hm => hr k (List.mem_append_left _ hm)), h2.away hk (fun k hm => hr k (List.mem_append_right _ hm)) hd, h3, h4⟩
theorem Pa.same (h : Pa w qb rb Q M) (hk : Kp w w' []) : Pa w' qb rb Q M := h.keep hk (by simp) (by simp)
/-- What a step leaves. -/
def Did (w w' : World) (rb : Nat) (Q : List Nat) (M : Qs) (e : Ending) : Prop := ∃ qb' Q', e = .returned (.tuple #[.pointer (some ⟨qb', 0, none⟩), .pointer (some ⟨rb, 0, none⟩), .bool true]) ∧ Pa w' qb' rb Q' M ∧ Nw w Q Q' ∧ Kp w w' Q
/-- The reference, when the program has gone on. -/
theorem Rq.mid {R : List Nat} {sb tb : Nat} {B : Option Nat} {M' : Qs} (hs : Qc w qb R M) (hr : Rq w rb sb tb B M) (h3 : ∀ k ∈ R, k ∉ rb :: sb :: tb :: B.toList) (h : To w w' qb R M') : Rq w' rb sb tb B M := by
  obtain ⟨R2, -, -, k⟩ := h
  exact hr.away k (fun k hk hm => h3 k hm hk) hs.notD
/-- Both have gone on. -/
theorem pa_fin {w1 w2 : World} {R : List Nat} {sb tb : Nat} {B : Option Nat} {M' : Qs} (hr : Rq w rb sb tb B M) (h3 : ∀ k ∈ R, k ∉ rb :: sb :: tb :: B.toList) (ok : Qok M') (h : To w w1 qb R M') (h' : Rto w1 w2 rb sb tb B M') : ∃ Q', Pa w2 qb rb Q' M' ∧ Nw w (R ++ (rb :: sb :: tb :: B.toList)) Q' ∧ Kp w w2 (R ++ (rb :: sb :: tb :: B.toList)) := by
  obtain ⟨R2, s, n, k⟩ := h
  obtain ⟨B2, mm, n', k'⟩ := h'
  have hl := hr.lt
  have hs := k.size
  have nb : ∀ x ∈ rb :: sb :: tb :: B2.toList, x ∈ rb :: sb :: tb :: B.toList ∨ w1.heap.size ≤ x := fun x hx => by
    simp only [List.mem_cons, Option.mem_toList] at hx ⊢
    rcases hx with hx | hx | hx | hx
    · exact .inl (.inl hx)
    · exact .inl (.inr (.inl hx))
    · exact .inl (.inr (.inr (.inl hx)))
    · exact (n' x hx).imp (fun h => .inr (.inr (.inr h))) id
  have d2 : ∀ x ∈ R2, x ∉ rb :: sb :: tb :: B.toList := fun x hx hm => by
    rcases n x hx with q | q
    · exact h3 x q hm
    · have := hl x hm; omega
  refine ⟨R2 ++ (rb :: sb :: tb :: B2.toList), ⟨R2, sb, tb, B2, rfl, s.keep k' (fun x hx hm => d2 x hx ?_), mm, fun x hx hm => ?_, ok⟩, fun x hx => ?_, (k.mono (fun x hx _ => List.mem_append_left _ hx)).trans (k'.mono (fun x hx _ => List.mem_append_right _ ?_))⟩
  · simp only [List.mem_cons, List.not_mem_nil, or_false] at hm ⊢
    rcases hm with hm | hm | hm
    · exact .inl hm
    · exact .inr (.inl hm)
    · exact .inr (.inr (.inl hm))
  · rcases nb x hm with q | q
    · exact d2 x hx q
    · have := s.lt x hx; omega
  · rcases List.mem_append.1 hx with hx | hx
    · exact (n x hx).imp (fun h => List.mem_append_left _ h) id
    · exact (nb x hx).imp (fun h => List.mem_append_right _ h) (fun h => Nat.le_trans hs h)
  · simp only [List.mem_cons, List.not_mem_nil, or_false] at hx ⊢
    rcases hx with hx | hx | hx
    · exact .inl hx
    · exact .inr (.inl hx)
    · exact .inr (.inr (.inl hx))
/-- A copy has taken its place. -/
theorem pa_copy {w2 w3 : World} {R RC : List Nat} {sb tb nb : Nat} {B : Option Nat} {M' : Qs} (hs : Qc w qb R M) (hr : Rq w rb sb tb B M) (h3 : ∀ k ∈ R, k ∉ rb :: sb :: tb :: B.toList) (ok : Qok M) (hk : Kp w w2 []) (hc : Qc w2 nb RC M) (hf : ∀ k ∈ RC, w.heap.size ≤ k) (h : To w2 w3 qb R M') : ∃ Q', Pa w3 nb rb Q' M ∧ Nw w (R ++ (rb :: sb :: tb :: B.toList)) Q' ∧ Kp w w3 (R ++ (rb :: sb :: tb :: B.toList)) := by
  obtain ⟨R2, -, -, k⟩ := h
  have hl := hr.lt
  refine ⟨RC ++ (rb :: sb :: tb :: B.toList), ⟨RC, sb, tb, B, rfl, hc.keep k (fun x hx hm => ?_), (hr.same hk).away k (fun x hx hm => h3 x hm hx) (hs.same hk).notD, fun x hx hm => ?_, ok⟩, fun x hx => ?_, (hk.nil).trans (k.mono (fun x hx _ => List.mem_append_left _ hx))⟩
  · have := hf x hx; have := hs.lt x hm; omega
  · have := hf _ hx; have := hl x hm; omega
  · rcases List.mem_append.1 hx with hx | hx
    · exact .inr (hf x hx)
    · exact .inl (List.mem_append_right _ hx)
theorem cellS5 (w : World) (a b c d e : Value) : (w.alloc (.cells #[a, b, c, d, e] 36)).cell? ⟨w.heap.size, 0, none⟩ = some a ∧ (w.alloc (.cells #[a, b, c, d, e] 36)).cell? ⟨w.heap.size, 1, none⟩ = some b ∧ (w.alloc (.cells #[a, b, c, d, e] 36)).cell? ⟨w.heap.size, 2, none⟩ = some c ∧ (w.alloc (.cells #[a, b, c, d, e] 36)).cell? ⟨w.heap.size, 3, none⟩ = some d ∧ (w.alloc (.cells #[a, b, c, d, e] 36)).cell? ⟨w.heap.size, 4, none⟩ = some e := by
  refine ⟨?_, ?_, ?_, ?_, ?_⟩ <;> simp
theorem sendVV_ex (M : Qs) (t p : Int) (m : Int × Int) : ∃ d x y o, sendVV M t p m = .agg #[.bool d, .int .i64 x, .int .i64 y, .int .i64 o] := by
  unfold sendVV sendV passed
  repeat' split
  all_goals exact ⟨_, _, _, _, rfl⟩
theorem recVV_ex (M : Qs) (t p : Int) : ∃ d x y o, recVV M t p = .agg #[.bool d, .int .i64 x, .int .i64 y, .int .i64 o] := by
  unfold recVV recV passed
  repeat' split
  all_goals exact ⟨_, _, _, _, rfl⟩
theorem eql45 (x y : Bool) (a b c d e f : Int) (W : World) : (binOp .eql 45 (.agg #[.bool x, .int .i64 a, .int .i64 b, .int .i64 c]) (.agg #[.bool y, .int .i64 d, .int .i64 e, .int .i64 f])).run Try.prog W = .ok (.bool (x == y && (a == d && b == e) && c == f)) W := by
  cases h0 : (x == y) <;> cases h1 : (a == d) <;> cases h2 : (b == e) <;> cases h3 : (c == f) <;> go_simp
/-- A step. -/
noncomputable def stM (M : Qs) (k t p : Int) (m : Int × Int) : Qs := if k = 1 then sendMM M t p m else if k = 2 then recMM M t p else if k = 3 then leM M t else if k = 4 then chM M t p else M
theorem Qok.sendMM {M : Qs} (h : Qok M) (t p : Int) (m : Int × Int) : Qok (sendMM M t p m) := by
  unfold Go.Proofs.Ytllkopekfanfaaa.sendMM
  split
  · exact h.send ‹_›
  · exact h
theorem Qok.recMM {M : Qs} (h : Qok M) (t p : Int) : Qok (recMM M t p) := by
  unfold Go.Proofs.Ytllkopekfanfaaa.recMM
  split
  · exact h.recv ‹_›
  · exact h
theorem Qok.st {M : Qs} (h : Qok M) (k t p : Int) (m : Int × Int) : Qok (stM M k t p m) := by
  unfold stM
  repeat' split
  · exact h.sendMM t p m
  · exact h.recMM t p
  · exact h.le t
  · exact h.ch t p
  · exact h
theorem sameQ_refl (M : Qs) : sameQ M M = true := by
  simp [sameQ, eqF]
theorem To.next {w w1 w2 : World} {qb : Nat} {R R1 : List Nat} {M2 : Qs} (hn : Nw w R R1) (hk : Kp w w1 R) (h : To w1 w2 qb R1 M2) : To w w2 qb R M2 := by
  obtain ⟨R2, s, n, k⟩ := h
  have hz := hk.size
  exact ⟨R2, s, hn.trans n hz, hk.past k fun x hx hl => (hn x hx).elim id fun h => by omega⟩
end Go.Proofs.Ytllkopekfanfaaa
