/- One side; two sides, apart. -/
import Derived.Test.YtllkopekfanfaaaSt
import Derived.Test.YtllkopekfanfaaaKn
import Derived.Test.YtllkopekfanfaaaArgs
namespace Go.Proofs.Ytllkopekfanfaaa
open Go.RowKit Go.Shelf Go.Lib Go.Sort Go.Maps
attribute [local go_sem] Oper.semAt_some

/-- One side, made behind w0. -/
def Oc (w0 W : World) (qb rb : Nat) : Prop := ∃ Q M, Pa W qb rb Q M ∧ (∀ k ∈ Q, w0.heap.size ≤ k) ∧ Kp w0 W []
section
variable {w0 W W' : World} {qb rb : Nat}
theorem Oc.kp (h : Oc w0 W qb rb) : Kp w0 W [] := by
  obtain ⟨Q, M, -, -, h⟩ := h
  exact h
theorem Oc.same (h : Oc w0 W qb rb) (hk : Kp W W' []) : Oc w0 W' qb rb := by
  obtain ⟨Q, M, h1, h2, h3⟩ := h
  exact ⟨Q, M, h1.same hk, h2, h3.trans hk⟩
theorem Oc.step (h : Oc w0 W qb rb) (k t p x y : Int) (hi : i64 t) : Calls Try.prog 11 #[.pointer (some ⟨qb, 0, none⟩), .pointer (some ⟨rb, 0, none⟩), .agg #[.int .i64 k, .int .i64 t, .int .i64 p, .int .i64 x, .int .i64 y]] W fun e w' => ∃ qb', e = .returned (.tuple #[.pointer (some ⟨qb', 0, none⟩), .pointer (some ⟨rb, 0, none⟩), .bool true]) ∧ Oc w0 w' qb' rb := by
  obtain ⟨Q, M, HP, h3, h4⟩ := h
  refine (do_any W qb rb Q M k t p x y hi HP).mono ?_
  rintro e w' ⟨qb', Q', rfl, h1, h2, hk⟩
  refine ⟨qb', rfl, Q', _, h1, fun x hx => ?_, h4.past hk (fun x hx hl => by have := h3 x hx; omega)⟩
  rcases h2 x hx with q | q
  · exact h3 x q
  · have := h4.size; omega
theorem Oc.stands (h : Oc w0 W qb rb) (leave : Int) : Calls Try.prog 12 #[.pointer (some ⟨qb, 0, none⟩), .pointer (some ⟨rb, 0, none⟩), .int .i64 leave] W fun e w' => e = .returned (.bool true) ∧ Kp W w' [] := by
  obtain ⟨Q, M, HP, -⟩ := h
  exact stands_any W qb rb Q M leave HP
theorem pa_new {A B C D : World} {c r sb tb : Nat} {R1 : List Nat} {n : Int} (ok : Qok (newQ n)) (h1 : Qc B c R1 (newQ n)) (f1 : ∀ k ∈ R1, A.heap.size ≤ k) (k1 : Kp B C []) (h2 : Rq D r sb tb none (newQ n)) (f2 : C.heap.size ≤ r) (f3 : C.heap.size ≤ sb) (f4 : C.heap.size ≤ tb) (k2 : Kp C D []) : Pa D c r (R1 ++ [r, sb, tb]) (newQ n) ∧ ∀ k ∈ R1 ++ [r, sb, tb], (A.heap.size ≤ k ∧ k < B.heap.size) ∨ (C.heap.size ≤ k ∧ k < D.heap.size) := by
  have := k1.size
  have hl := h2.lt
  refine ⟨⟨R1, sb, tb, none, by simp, (h1.same k1).same k2, h2, fun k hk hm => ?_, ok⟩, fun k hk => ?_⟩
  · have := h1.lt _ hk
    simp at hm
    omega
  · simp only [List.mem_append, List.mem_cons, List.not_mem_nil, or_false] at hk
    rcases hk with hk | rfl | rfl | rfl
    · exact .inl ⟨f1 k hk, h1.lt k hk⟩
    · exact .inr ⟨f2, hl _ (by simp)⟩
    · exact .inr ⟨f3, hl _ (by simp)⟩
    · exact .inr ⟨f4, hl _ (by simp)⟩
theorem Oc.new {w w1 w2 : World} {sb tb : Nat} {R1 : List Nat} {n : Int} (ok : Qok (newQ n)) (h1 : Qc w1 qb R1 (newQ n)) (f1 : ∀ k ∈ R1, w.heap.size ≤ k) (k1 : Kp w w1 []) (h2 : Rq w2 rb sb tb none (newQ n)) (f2 : w1.heap.size ≤ rb) (f3 : w1.heap.size ≤ sb) (f4 : w1.heap.size ≤ tb) (k2 : Kp w1 w2 []) : Oc w w2 qb rb := by
  have := k1.size
  obtain ⟨a, b⟩ := pa_new ok h1 f1 (Kp.refl _ _) h2 f2 f3 f4 k2
  exact ⟨_, _, a, fun k hk => by have := b k hk; omega, k1.trans k2⟩
end
end Go.Proofs.Ytllkopekfanfaaa

/- Two sides, each of which may not be there; apart. -/
namespace Go.Proofs.Ytllkopekfanfaaa
open Go.RowKit Go.Shelf Go.Lib Go.Sort Go.Maps
attribute [local go_sem] Oper.semAt_some

/-- A side: neither is there, or both are. -/
def Sd (W : World) (x p : Option Addr) (R : List Nat) : Prop := (x = none ∧ p = none ∧ R = []) ∨ ∃ qb rb M, x = some ⟨qb, 0, none⟩ ∧ p = some ⟨rb, 0, none⟩ ∧ Pa W qb rb R M
section
variable {w0 W W' : World} {x p y q : Option Addr} {R : List Nat}
theorem Sd.lt (h : Sd W x p R) : ∀ k ∈ R, k < W.heap.size := by
  rcases h with ⟨-, -, rfl⟩ | ⟨qb, rb, M, -, -, h⟩
  · simp
  · exact h.lt
theorem Sd.keep (h : Sd W x p R) {rs : List Nat} (hk : Kp W W' rs) (hr : ∀ k ∈ R, k ∉ rs) (hd : ∀ k ∈ rs, ∀ c, W.heap[k]? ≠ some (.cells c 103 (0, 0))) : Sd W' x p R := by
  rcases h with h | ⟨qb, rb, M, e1, e2, h⟩
  · exact .inl h
  · exact .inr ⟨qb, rb, M, e1, e2, h.keep hk hr hd⟩
/-- Two of them, apart, made behind w0. -/
def O2 (w0 W : World) (x p y q : Option Addr) : Prop := ∃ R1 R2, Sd W x p R1 ∧ Sd W y q R2 ∧ (∀ j ∈ R1, j ∉ R2) ∧ (∀ j ∈ R1, w0.heap.size ≤ j) ∧ (∀ j ∈ R2, w0.heap.size ≤ j) ∧ Kp w0 W []
theorem O2.kp (h : O2 w0 W x p y q) : Kp w0 W [] := by
  obtain ⟨_, _, -, -, -, -, -, h⟩ := h
  exact h
theorem O2.swap (h : O2 w0 W x p y q) : O2 w0 W y q x p := by
  obtain ⟨R1, R2, h1, h2, h3, h4, h5, h6⟩ := h
  exact ⟨R2, R1, h2, h1, fun j hj hm => h3 j hm hj, h5, h4, h6⟩
theorem O2.same (h : O2 w0 W x p y q) (hk : Kp W W' []) : O2 w0 W' x p y q := by
  obtain ⟨R1, R2, h1, h2, h3, h4, h5, h6⟩ := h
  exact ⟨R1, R2, h1.keep hk (by simp) (by simp), h2.keep hk (by simp) (by simp), h3, h4, h5, h6.trans hk⟩
theorem O2.step {P0 : Addr} (h : O2 w0 W x (some P0) y q) (c t n v z : Int) (hi : i64 t) : Calls Try.prog 11 #[.pointer x, .pointer (some P0), .agg #[.int .i64 c, .int .i64 t, .int .i64 n, .int .i64 v, .int .i64 z]] W fun e w' => ∃ x', e = .returned (.tuple #[.pointer x', .pointer (some P0), .bool true]) ∧ O2 w0 w' x' (some P0) y q := by
  obtain ⟨R1, R2, h1, h2, h3, h4, h5, h6⟩ := h
  rcases h1 with ⟨-, e, -⟩ | ⟨qb, rb, M, rfl, e2, hP⟩
  · cases e
  · cases e2
    refine (do_any W qb rb R1 M c t n v z hi hP).mono ?_
    rintro e w' ⟨qb', Q', rfl, g1, g2, hk⟩
    refine ⟨some ⟨qb', 0, none⟩, rfl, Q', R2, .inr ⟨qb', rb, _, rfl, rfl, g1⟩, h2.keep hk (fun j hj hm => h3 j hm hj) hP.kind, fun j hj hm => ?_, fun j hj => ?_, h5, h6.past hk (fun j hj hl => by have := h4 j hj; omega)⟩
    · rcases g2 j hj with q | q
      · exact h3 j q hm
      · have := h2.lt j hm; omega
    · rcases g2 j hj with q | q
      · exact h4 j q
      · have := h6.size; omega
theorem O2.sames (h : O2 w0 W x p y q) : ∃ B, Calls Try.prog 13 #[.pointer x, .pointer y] W (fun e w' => e = .returned (.bool B) ∧ Kp W w' []) ∧ ∀ W', Kp W W' [] → Calls Try.prog 14 #[.pointer p, .pointer q] W' (fun e w' => e = .returned (.bool B) ∧ Kp W' w' []) := by
  obtain ⟨R1, R2, h1, h2, -⟩ := h
  rcases h1 with ⟨rfl, rfl, -⟩ | ⟨qb, rb, M, rfl, rfl, hP⟩
  · rcases h2 with ⟨rfl, rfl, -⟩ | ⟨qc, rc, M2, rfl, rfl, hP2⟩
    · exact ⟨true, qsame_nil W none none (.inl rfl) (.inl rfl), fun W' _ => rqsame_nil W' none none (.inl rfl)⟩
    · obtain ⟨Ra, sb, tb, B, rfl, hs, hr, -⟩ := hP2
      exact ⟨false, qsame_on W qc Ra M2 none hs (.inl rfl), fun W' _ => rqsame_nil W' none _ (.inl rfl)⟩
  · rcases h2 with ⟨rfl, rfl, -⟩ | ⟨qc, rc, M2, rfl, rfl, hP2⟩
    · obtain ⟨Ra, sb, tb, B, rfl, hs, hr, -⟩ := hP
      exact ⟨false, qsame_no W qb Ra M none hs (.inl rfl), fun W' _ => rqsame_nil W' _ none (.inr rfl)⟩
    · have o1 := hP.ok
      have o2 := hP2.ok
      obtain ⟨Ra, sb, tb, B, rfl, hs, hr, -⟩ := hP
      obtain ⟨Rb, sc, tc, C, rfl, hs2, hr2, -⟩ := hP2
      exact ⟨_, qsame W qb qc Ra Rb M M2 hs hs2, fun W' hW => rqsame_q W' rb sb tb rc sc tc B C M M2 (hr.same hW) (hr2.same hW) o1 o2⟩
theorem O2.self (h : O2 w0 W x p y q) : Calls Try.prog 13 #[.pointer x, .pointer x] W (fun e w' => e = .returned (.bool true) ∧ Kp W w' []) := by
  obtain ⟨R1, R2, h1, h2, -⟩ := h
  rcases h1 with ⟨rfl, rfl, -⟩ | ⟨qb, rb, M, rfl, rfl, hP⟩
  · exact qsame_nil W none none (.inl rfl) (.inl rfl)
  · obtain ⟨Ra, sb, tb, B, rfl, hs, hr, -⟩ := hP
    have := qsame W qb qb Ra Ra M M hs hs
    rw [sameQ_refl] at this
    exact this
/-- What New has made, if anything. -/
def Nx (w W : World) (x : Option Addr) (R : List Nat) (n : Int) : Prop := (∀ j ∈ R, w.heap.size ≤ j) ∧ ((¬ (1 ≤ n ∧ n ≤ 32) ∧ x = none ∧ R = []) ∨ ∃ qb, (1 ≤ n ∧ n ≤ 32) ∧ x = some ⟨qb, 0, none⟩ ∧ Qc W qb R (newQ n))
def Rx (w W : World) (p : Option Addr) (Q : List Nat) (n : Int) : Prop := (∀ j ∈ Q, w.heap.size ≤ j) ∧ ((¬ (1 ≤ n ∧ n ≤ 32) ∧ p = none ∧ Q = []) ∨ ∃ rb sb tb, (1 ≤ n ∧ n ≤ 32) ∧ p = some ⟨rb, 0, none⟩ ∧ Q = [rb, sb, tb] ∧ Rq W rb sb tb none (newQ n))
theorem qnew_any (w : World) (n : Int) : Calls Try.prog 7 #[.int .i64 n] w fun e w' => ∃ x E R, e = .returned (.tuple #[.pointer x, .int .i64 E]) ∧ Nx w w' x R n ∧ Kp w w' [] := by
  by_cases hn : 1 ≤ n ∧ n ≤ 32
  · refine (new_ok w n hn.1 hn.2).mono ?_
    rintro e w1 ⟨⟨qb, R1, rfl, hx, hx1⟩, hx2⟩
    exact ⟨_, 0, R1, rfl, ⟨hx1, .inr ⟨qb, hn, rfl, hx⟩⟩, hx2⟩
  · refine (new_bad w n hn).mono ?_
    rintro e w1 ⟨rfl, k1⟩
    exact ⟨none, 2, [], rfl, ⟨by simp, .inl ⟨hn, rfl, rfl⟩⟩, k1⟩
theorem rqnew_any (w : World) (n : Int) : Calls Try.prog 8 #[.int .i64 n] w fun e w' => ∃ p Q, e = .returned (.pointer p) ∧ Rx w w' p Q n ∧ Kp w w' [] := by
  by_cases hn : 1 ≤ n ∧ n ≤ 32
  · refine (rnew_ok w n hn.1 hn.2).mono ?_
    rintro e w1 ⟨⟨rb, sb, tb, rfl, hx, hx1, hx2, hx3⟩, hx4⟩
    exact ⟨_, _, rfl, ⟨by simp; omega, .inr ⟨rb, sb, tb, hn, rfl, rfl, hx⟩⟩, hx4⟩
  · refine (rnew_bad w n hn).mono ?_
    rintro e w1 ⟨rfl, k1⟩
    exact ⟨none, [], rfl, ⟨by simp, .inl ⟨hn, rfl, rfl⟩⟩, k1⟩
theorem sd_new {w w1 w2 w3 w4 : World} {n : Int} {R Q : List Nat} (h : Nx w w1 x R n) (k1 : Kp w1 w2 []) (h' : Rx w2 w3 p Q n) (k3 : Kp w3 w4 []) (k2 : Kp w2 w3 []) : Sd w4 x p (R ++ Q) := by
  rcases h.2 with ⟨hn, rfl, rfl⟩ | ⟨qb, hb, rfl, hs⟩
  · rcases h'.2 with ⟨-, rfl, rfl⟩ | ⟨rb, sb, tb, hb, -⟩
    · exact .inl ⟨rfl, rfl, rfl⟩
    · exact absurd hb hn
  · rcases h'.2 with ⟨hn, -, -⟩ | ⟨rb, sb, tb, -, rfl, rfl, hr⟩
    · exact absurd hb hn
    · have hq := h'.1
      simp only [List.mem_cons, List.not_mem_nil, or_false, forall_eq_or_imp, forall_eq] at hq
      exact .inr ⟨qb, rb, _, rfl, rfl, ((pa_new (Qok.new hb.1 hb.2) hs h.1 k1 hr hq.1 hq.2.1 hq.2.2 k2).1).same k3⟩
theorem Nx.lt {w : World} {n : Int} (h : Nx w W x R n) : ∀ j ∈ R, j < W.heap.size := by
  rcases h.2 with ⟨-, -, rfl⟩ | ⟨qb, -, -, hs⟩
  · simp
  · exact hs.lt
theorem Rx.lt {w : World} {n : Int} (h : Rx w W x R n) : ∀ j ∈ R, j < W.heap.size := by
  rcases h.2 with ⟨-, -, rfl⟩ | ⟨rb, sb, tb, -, -, rfl, hs⟩
  · simp
  · exact hs.lt
theorem o2_new {W0 w1 w2 w3 w4 w5 : World} {a c : Int} {R1 R2 Q1 Q2 : List Nat} (n1 : Nx W0 w1 x R1 a) (n2 : Nx w1 w2 y R2 c) (r1 : Rx w3 w4 p Q1 a) (r2 : Rx w4 w5 q Q2 c) (k1 : Kp W0 w1 []) (k2 : Kp w1 w2 []) (k3 : Kp w2 w3 []) (k4 : Kp w3 w4 []) (k5 : Kp w4 w5 []) : O2 W0 w5 x p y q := by
  have s1 := k1.size
  have s2 := k2.size
  have s3 := k3.size
  have s4 := k4.size
  refine ⟨R1 ++ Q1, R2 ++ Q2, sd_new n1 (k2.trans k3) r1 k5 k4, sd_new n2 (k3.trans k4) r2 (Kp.refl _ _) k5, fun j hj hm => ?_, fun j hj => ?_, fun j hj => ?_, k1.trans (k2.trans (k3.trans (k4.trans k5)))⟩
  · rcases List.mem_append.1 hj with hj | hj
    · have := n1.lt j hj
      rcases List.mem_append.1 hm with hm | hm
      · have := n2.1 j hm; omega
      · have := r2.1 j hm; omega
    · have := r1.1 j hj
      have := r1.lt j hj
      rcases List.mem_append.1 hm with hm | hm
      · have := n2.lt j hm; omega
      · have := r2.1 j hm; omega
  · rcases List.mem_append.1 hj with hj | hj
    · exact n1.1 j hj
    · have := r1.1 j hj; omega
  · rcases List.mem_append.1 hj with hj | hj
    · have := n2.1 j hj; omega
    · have := r2.1 j hj; omega
end
end Go.Proofs.Ytllkopekfanfaaa
