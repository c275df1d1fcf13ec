/- One side; two sides, apart. -/
import Derived.Test.YtpkjnjhbgjgfaaaDo
import Derived.Test.YtpkjnjhbgjgfaaaSt
import Derived.Test.YtpkjnjhbgjgfaaaKn
import Derived.Test.YtpkjnjhbgjgfaaaArgs
namespace Go.Proofs.Ytpkjnjhbgjgfaaa
open Go.RowKit Go.Shelf Go.Lib Go.Sort Go.Maps
attribute [local go_sem] Oper.semAt_some

/-- One side, made behind w0. -/
def Oc (w0 W : World) (cb rb : Nat) : Prop := ∃ R m L, Pa W cb rb R m L ∧ (∀ k ∈ R, w0.heap.size ≤ k) ∧ Kp w0 W []
variable {w0 W W' : World} {cb rb xb yb pb qb : Nat}
theorem Oc.kp (h : Oc w0 W cb rb) : Kp w0 W [] := by
  obtain ⟨R, m, L, -, -, h⟩ := h
  exact h
theorem Oc.same (h : Oc w0 W cb rb) (hk : Kp W W' []) : Oc w0 W' cb rb := by
  obtain ⟨R, m, L, h1, h2, h3⟩ := h
  exact ⟨R, m, L, h1.same hk, h2, h3.trans hk⟩
theorem Oc.step (h : Oc w0 W cb rb) (k t p u : Int) : Calls Try.prog 9 #[.pointer (some ⟨cb, 0, none⟩), .pointer (some ⟨rb, 0, none⟩), .agg #[.int .i64 k, .int .i64 t, .int .i64 p, .int .i64 u]] W fun e w' => ∃ cb', e = .returned (.tuple #[.pointer (some ⟨cb', 0, none⟩), .pointer (some ⟨rb, 0, none⟩), .bool true]) ∧ Oc w0 w' cb' rb := by
  obtain ⟨R, m, L, HP, h3, h4⟩ := h
  refine (do_any W cb rb R m L k t p u HP).mono ?_
  rintro e w' ⟨cb', R', rfl, h1, h2, hk⟩
  refine ⟨cb', rfl, R', _, _, h1, fun x hx => ?_, h4.past hk (fun x hx hl => by have := h3 x hx; omega)⟩
  rcases h2 x hx with q | q
  · exact h3 x q
  · have := h4.size; omega
theorem Oc.new {w w1 w2 : World} {q : Nat} {R1 : List Nat} (h1 : Cm w1 cb R1 0 []) (f1 : ∀ k ∈ R1, w.heap.size ≤ k) (k1 : Kp w w1 []) (h2 : Rm w2 rb q 0 []) (f2 : w1.heap.size ≤ rb) (f3 : w1.heap.size ≤ q) (k2 : Kp w1 w2 []) : Oc w w2 cb rb := by
  have := k1.size
  refine ⟨R1 ++ [rb, q], 0, [], ⟨R1, q, rfl, h1.same k2, h2, fun hm => ?_, fun hm => ?_⟩, fun k hk => ?_, k1.trans k2⟩
  · have := h1.lt _ hm; omega
  · have := h1.lt _ hm; omega
  · simp at hk
    rcases hk with hk | rfl | rfl
    · exact f1 k hk
    · omega
    · omega
/-- Two sides, apart. -/
def O2 (w0 W : World) (xb pb yb qb : Nat) : Prop := ∃ R1 m1 L1 R2 m2 L2, Pa W xb pb R1 m1 L1 ∧ Pa W yb qb R2 m2 L2 ∧ (∀ k ∈ R1, k ∉ R2) ∧ (∀ k ∈ R1, w0.heap.size ≤ k) ∧ (∀ k ∈ R2, w0.heap.size ≤ k) ∧ Kp w0 W []
theorem O2.kp (h : O2 w0 W xb pb yb qb) : Kp w0 W [] := by
  obtain ⟨_, _, _, _, _, _, -, -, -, -, -, h⟩ := h
  exact h
theorem O2.swap (h : O2 w0 W xb pb yb qb) : O2 w0 W yb qb xb pb := by
  obtain ⟨R1, m1, L1, R2, m2, L2, h1, h2, h3, h4, h5, h6⟩ := h
  exact ⟨R2, m2, L2, R1, m1, L1, h2, h1, fun k hk hm => h3 k hm hk, h5, h4, h6⟩
theorem O2.same (h : O2 w0 W xb pb yb qb) (hk : Kp W W' []) : O2 w0 W' xb pb yb qb := by
  obtain ⟨R1, m1, L1, R2, m2, L2, h1, h2, h3, h4, h5, h6⟩ := h
  exact ⟨R1, m1, L1, R2, m2, L2, h1.same hk, h2.same hk, h3, h4, h5, h6.trans hk⟩
theorem O2.step (h : O2 w0 W xb pb yb qb) (k t p u : Int) : Calls Try.prog 9 #[.pointer (some ⟨xb, 0, none⟩), .pointer (some ⟨pb, 0, none⟩), .agg #[.int .i64 k, .int .i64 t, .int .i64 p, .int .i64 u]] W fun e w' => ∃ xb', e = .returned (.tuple #[.pointer (some ⟨xb', 0, none⟩), .pointer (some ⟨pb, 0, none⟩), .bool true]) ∧ O2 w0 w' xb' pb yb qb := by
  obtain ⟨R1, m1, L1, R2, m2, L2, h1, h2, h3, h4, h5, h6⟩ := h
  refine (do_any W xb pb R1 m1 L1 k t p u h1).mono ?_
  rintro e w' ⟨xb', R', rfl, g1, g2, hk⟩
  refine ⟨xb', rfl, R', _, _, R2, m2, L2, g1, h2.keep hk (fun x hx hm => h3 x hm hx) h1.kind, fun x hx hm => ?_, fun x hx => ?_, h5, h6.past hk (fun x hx hl => by have := h4 x hx; omega)⟩
  · rcases g2 x hx with q | q
    · exact h3 x q hm
    · have := h2.lt x hm; omega
  · rcases g2 x hx with q | q
    · exact h4 x q
    · have := h6.size; omega
theorem pa_new {A B C D : World} {c r q : Nat} {R1 : List Nat} (h1 : Cm B c R1 0 []) (f1 : ∀ k ∈ R1, A.heap.size ≤ k) (k1 : Kp B C []) (h2 : Rm D r q 0 []) (f2 : C.heap.size ≤ r) (f3 : C.heap.size ≤ q) (k2 : Kp C D []) : Pa D c r (R1 ++ [r, q]) 0 [] ∧ ∀ k ∈ R1 ++ [r, q], (A.heap.size ≤ k ∧ k < B.heap.size) ∨ (C.heap.size ≤ k ∧ k < D.heap.size) := by
  have := k1.size
  have hl := h2.lt
  refine ⟨⟨R1, q, rfl, (h1.same k1).same k2, h2, fun hm => ?_, fun hm => ?_⟩, fun k hk => ?_⟩
  · have := h1.lt _ hm; omega
  · have := h1.lt _ hm; omega
  · simp at hk
    rcases hk with hk | rfl | rfl
    · exact .inl ⟨f1 k hk, h1.lt k hk⟩
    · exact .inr ⟨f2, hl.1⟩
    · exact .inr ⟨f3, hl.2⟩
/-- All four, made one behind the other: two conditions, two of the reference's. -/
theorem o2_new {w w1 w2 w3 w4 : World} {R1 R2 : List Nat} {q1 q2 : Nat} (h1 : Cm w1 xb R1 0 []) (f1 : ∀ k ∈ R1, w.heap.size ≤ k) (k1 : Kp w w1 []) (h2 : Cm w2 yb R2 0 []) (f2 : ∀ k ∈ R2, w1.heap.size ≤ k) (k2 : Kp w1 w2 []) (h3 : Rm w3 pb q1 0 []) (f3 : w2.heap.size ≤ pb) (g3 : w2.heap.size ≤ q1) (k3 : Kp w2 w3 []) (h4 : Rm w4 qb q2 0 []) (f4 : w3.heap.size ≤ qb) (g4 : w3.heap.size ≤ q2) (k4 : Kp w3 w4 []) : O2 w w4 xb pb yb qb := by
  obtain ⟨a1, b1⟩ := pa_new h1 f1 k2 h3 f3 g3 k3
  obtain ⟨a2, b2⟩ := pa_new h2 f2 k3 h4 f4 g4 k4
  have s1 := k1.size
  have s2 := k2.size
  have s3 := k3.size
  refine ⟨_, _, _, _, _, _, a1.same k4, a2, fun k hk hm => ?_, fun k hk => ?_, fun k hk => ?_, ((k1.trans k2).trans k3).trans k4⟩
  · have := b1 k hk
    have := b2 k hm
    omega
  · have := b1 k hk; omega
  · have := b2 k hk; omega
theorem O2.eq (h : O2 w0 W xb pb yb qb) : ∃ B, Calls Try.prog 12 #[.pointer (some ⟨xb, 0, none⟩), .pointer (some ⟨yb, 0, none⟩)] W (fun e w' => e = .returned (.bool B) ∧ Kp W w' []) ∧ ∀ W', Kp W W' [] → Calls Try.prog 13 #[.pointer (some ⟨pb, 0, none⟩), .pointer (some ⟨qb, 0, none⟩)] W' (fun e w' => e = .returned (.bool B) ∧ Kp W' w' []) := by
  obtain ⟨-, m1, L1, -, m2, L2, ⟨R1, q1, -, c1, r1, -⟩, ⟨R2, q2, -, c2, r2, -⟩, -⟩ := h
  have e1 : R1.isEmpty = false := by obtain ⟨wb, R0, rfl, -⟩ := c1; rfl
  have e2 : R2.isEmpty = false := by obtain ⟨wb, R0, rfl, -⟩ := c2; rfl
  refine ⟨_, csame W _ _ R1 R2 m1 m2 L1 L2 c1.cv c2.cv, fun W' hk => ?_⟩
  refine (Go.Proofs.Ytpkjnjhbgjgfaaa.rsame W' pb q1 qb q2 m1 m2 L1 L2 (r1.same hk) (r2.same hk) c1.ok.len c2.ok.len).mono ?_
  rintro e w' ⟨rfl, hw⟩
  refine ⟨?_, hw⟩
  unfold sameC
  rw [e1, e2]
  simp
theorem O2.self (h : O2 w0 W xb pb yb qb) : Calls Try.prog 12 #[.pointer (some ⟨xb, 0, none⟩), .pointer (some ⟨xb, 0, none⟩)] W (fun e w' => e = .returned (.bool true) ∧ Kp W w' []) := by
  obtain ⟨-, m1, L1, -, m2, L2, ⟨R1, q1, -, c1, r1, -⟩, -⟩ := h
  refine (csame W _ _ R1 R1 m1 m1 L1 L1 c1.cv c1.cv).mono ?_
  rintro e w' ⟨rfl, hk⟩
  exact ⟨by rw [same_self], hk⟩
end Go.Proofs.Ytpkjnjhbgjgfaaa
