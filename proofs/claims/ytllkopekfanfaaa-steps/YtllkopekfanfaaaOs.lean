/- One side; two sides, apart. -/
import Derived.Test.YtllkopekfanfaaaSt
import Derived.Test.YtllkopekfanfaaaKn
import Derived.Test.YtllkopekfanfaaaArgs
namespace Go.Proofs.Ytllkopekfanfaaa
open Go.RowKit Go.Shelf Go.Lib Go.Sort Go.Maps
attribute [local go_sem] Oper.semAt_some

/-- One side, made behind w0. -/
def Oc (w0 W : World) (qb rb : Nat) : Prop := ∃ Q M, Pa W qb rb Q M ∧ (∀ k ∈ Q, w0.heap.size ≤ k) ∧ Kp w0 W []
section
variable {w0 W W' : World} {qb rb : Nat}
theorem Oc.kp (h : Oc w0 W qb rb) : Kp w0 W [] := by
  obtain ⟨Q, M, -, -, h⟩ := h
  exact h
theorem Oc.same (h : Oc w0 W qb rb) (hk : Kp W W' []) : Oc w0 W' qb rb := by
  obtain ⟨Q, M, h1, h2, h3⟩ := h
  exact ⟨Q, M, h1.same hk, h2, h3.trans hk⟩
theorem Oc.step (h : Oc w0 W qb rb) (k t p x y : Int) (hi : i64 t) : Calls Try.prog 11 #[.pointer (some ⟨qb, 0, none⟩), .pointer (some ⟨rb, 0, none⟩), .agg #[.int .i64 k, .int .i64 t, .int .i64 p, .int .i64 x, .int .i64 y]] W fun e w' => ∃ qb', e = .returned (.tuple #[.pointer (some ⟨qb', 0, none⟩), .pointer (some ⟨rb, 0, none⟩), .bool true]) ∧ Oc w0 w' qb' rb := by
  obtain ⟨Q, M, HP, h3, h4⟩ := h
  refine (do_any W qb rb Q M k t p x y hi HP).mono ?_
  rintro e w' ⟨qb', Q', rfl, h1, h2, hk⟩
  refine ⟨qb', rfl, Q', _, h1, fun x hx => ?_, h4.past hk (fun x hx hl => by have := h3 x hx; omega)⟩
  rcases h2 x hx with q | q
  · exact h3 x q
  · have := h4.size; omega
theorem Oc.stands (h : Oc w0 W qb rb) (leave : Int) : Calls Try.prog 12 #[.pointer (some ⟨qb, 0, none⟩), .pointer (some ⟨rb, 0, none⟩), .int .i64 leave] W fun e w' => e = .returned (.bool true) ∧ Kp W w' [] := by
  obtain ⟨Q, M, HP, -⟩ := h
  exact stands_any W qb rb Q M leave HP
theorem pa_new {A B C D : World} {c r sb tb : Nat} {R1 : List Nat} {n : Int} (ok : Qok (newQ n)) (h1 : Qc B c R1 (newQ n)) (f1 : ∀ k ∈ R1, A.heap.size ≤ k) (k1 : Kp B C []) (h2 : Rq D r sb tb none (newQ n)) (f2 : C.heap.size ≤ r) (f3 : C.heap.size ≤ sb) (f4 : C.heap.size ≤ tb) (k2 : Kp C D []) : Pa D c r (R1 ++ [r, sb, tb]) (newQ n) ∧ ∀ k ∈ R1 ++ [r, sb, tb], (A.heap.size ≤ k ∧ k < B.heap.size) ∨ (C.heap.size ≤ k ∧ k < D.heap.size) := by
  have := k1.size
  have hl := h2.lt
  refine ⟨⟨R1, sb, tb, none, by simp, (h1.same k1).same k2, h2, fun k hk hm => ?_, ok⟩, fun k hk => ?_⟩
  · have := h1.lt _ hk
    simp at hm
    omega
  · simp only [List.mem_append, List.mem_cons, List.not_mem_nil, or_false] at hk
    rcases hk with hk | rfl | rfl | rfl
    · exact .inl ⟨f1 k hk, h1.lt k hk⟩
    · exact .inr ⟨f2, hl _ (by simp)⟩
    · exact .inr ⟨f3, hl _ (by simp)⟩
    · exact .inr ⟨f4, hl _ (by simp)⟩
theorem Oc.new {w w1 w2 : World} {sb tb : Nat} {R1 : List Nat} {n : Int} (ok : Qok (newQ n)) (h1 : Qc w1 qb R1 (newQ n)) (f1 : ∀ k ∈ R1, w.heap.size ≤ k) (k1 : Kp w w1 []) (h2 : Rq w2 rb sb tb none (newQ n)) (f2 : w1.heap.size ≤ rb) (f3 : w1.heap.size ≤ sb) (f4 : w1.heap.size ≤ tb) (k2 : Kp w1 w2 []) : Oc w w2 qb rb := by
  have := k1.size
  obtain ⟨a, b⟩ := pa_new ok h1 f1 (Kp.refl _ _) h2 f2 f3 f4 k2
  exact ⟨_, _, a, fun k hk => by have := b k hk; omega, k1.trans k2⟩
end
end Go.Proofs.Ytllkopekfanfaaa
