/- Four pairs, each of which may not be there. -/
import Derived.Test.YtpkaeanagdhmiaaOs
namespace Go.Proofs.Ytpkaeanagdhmiaa
open Go.RowKit Go.Shelf Go.Lib Go.Sort Go.Maps

/-- A pair: the types, what holds of it, where both stand. -/
structure Ob where
  T : Nat
  T' : Nat
  K : Int → List Dl → Prop
  x : Option Addr
  p : Option Addr
abbrev sOb (x p : Option Addr) : Ob := ⟨74, 38, Sok, x, p⟩
abbrev bOb (x p : Option Addr) : Ob := ⟨76, 54, Bok, x, p⟩
/-- It is there, or neither is. -/
def Ob.is (o : Ob) (W : World) (R : List Nat) (v : Int) (L : List Dl) : Prop :=
  (∃ sb rb, o.x = some ⟨sb, 0, none⟩ ∧ o.p = some ⟨rb, 0, none⟩ ∧ Pa o.T o.T' W sb rb R v L ∧ o.K v L) ∨ (o.x = none ∧ o.p = none ∧ R = [] ∧ v = 0 ∧ L = [])
variable {w0 W W' : World} {a b c d o : Ob} {R : List Nat} {v : Int} {L : List Dl}
theorem Ob.is.lt (h : o.is W R v L) : ∀ k ∈ R, k < W.heap.size := by
  rcases h with ⟨sb, rb, -, -, h, -⟩ | ⟨-, -, rfl, -⟩
  · exact h.lt
  · simp
theorem Ob.is.kind (h : o.is W R v L) : ∀ k ∈ R, ∀ c, W.heap[k]? ≠ some (.cells c 87 (0, 0)) := by
  rcases h with ⟨sb, rb, -, -, h, -⟩ | ⟨-, -, rfl, -⟩
  · exact h.kind
  · simp
theorem Ob.is.keep (h : o.is W R v L) {rs : List Nat} (hk : Kp W W' rs) (hr : ∀ k ∈ R, k ∉ rs) (hd : ∀ k ∈ rs, ∀ c, W.heap[k]? ≠ some (.cells c 87 (0, 0))) : o.is W' R v L := by
  rcases h with ⟨sb, rb, e1, e2, h, hK⟩ | h
  · exact .inl ⟨sb, rb, e1, e2, h.keep hk hr hd, hK⟩
  · exact .inr h
theorem Ob.is.same (h : o.is W R v L) (hk : Kp W W' []) : o.is W' R v L := h.keep hk (by simp) (by simp)
def Ap (R S : List Nat) : Prop := ∀ k ∈ R, k ∉ S
theorem Ap.symm {R S : List Nat} (h : Ap R S) : Ap S R := fun k hk hm => h k hm hk
/-- Four of them, apart, made behind w0. -/
def Qd (w0 W : World) (a b c d : Ob) : Prop :=
  ∃ Ra va La Rb vb Lb Rc vc Lc Rd vd Ld, a.is W Ra va La ∧ b.is W Rb vb Lb ∧ c.is W Rc vc Lc ∧ d.is W Rd vd Ld ∧ Ap Ra Rb ∧ Ap Ra Rc ∧ Ap Ra Rd ∧ Ap Rb Rc ∧ Ap Rb Rd ∧ Ap Rc Rd ∧
    (∀ k ∈ Ra, w0.heap.size ≤ k) ∧ (∀ k ∈ Rb, w0.heap.size ≤ k) ∧ (∀ k ∈ Rc, w0.heap.size ≤ k) ∧ (∀ k ∈ Rd, w0.heap.size ≤ k) ∧ Kp w0 W []
theorem Qd.rot (h : Qd w0 W a b c d) : Qd w0 W b c d a := by
  obtain ⟨Ra, va, La, Rb, vb, Lb, Rc, vc, Lc, Rd, vd, Ld, h1, h2, h3, h4, d1, d2, d3, d4, d5, d6, f1, f2, f3, f4, k⟩ := h
  exact ⟨Rb, vb, Lb, Rc, vc, Lc, Rd, vd, Ld, Ra, va, La, h2, h3, h4, h1, d4, d5, d1.symm, d6, d2.symm, d3.symm, f2, f3, f4, f1, k⟩
theorem Qd.kp (h : Qd w0 W a b c d) : Kp w0 W [] := by
  obtain ⟨Ra, va, La, Rb, vb, Lb, Rc, vc, Lc, Rd, vd, Ld, h1, h2, h3, h4, d1, d2, d3, d4, d5, d6, f1, f2, f3, f4, k⟩ := h
  exact k
theorem Qd.same (h : Qd w0 W a b c d) (hk : Kp W W' []) : Qd w0 W' a b c d := by
  obtain ⟨Ra, va, La, Rb, vb, Lb, Rc, vc, Lc, Rd, vd, Ld, h1, h2, h3, h4, d1, d2, d3, d4, d5, d6, f1, f2, f3, f4, k⟩ := h
  exact ⟨Ra, va, La, Rb, vb, Lb, Rc, vc, Lc, Rd, vd, Ld, h1.same hk, h2.same hk, h3.same hk, h4.same hk, d1, d2, d3, d4, d5, d6, f1, f2, f3, f4, k.trans hk⟩
/-- The first one goes on. -/
theorem Qd.first (h : Qd w0 W a b c d) : ∃ R v L, a.is W R v L ∧ ∀ (w' : World) (x : Option Addr) (R' : List Nat) (v' : Int) (L' : List Dl), Ob.is ⟨a.T, a.T', a.K, x, a.p⟩ w' R' v' L' → Nw W R R' → Kp W w' R → Qd w0 w' ⟨a.T, a.T', a.K, x, a.p⟩ b c d := by
  obtain ⟨Ra, va, La, Rb, vb, Lb, Rc, vc, Lc, Rd, vd, Ld, h1, h2, h3, h4, d1, d2, d3, d4, d5, d6, f1, f2, f3, f4, k⟩ := h
  refine ⟨Ra, va, La, h1, fun w' x R' v' L' hi hn hk => ?_⟩
  have hs := k.size
  have off : ∀ {o : Ob} {S : List Nat} {u : Int} {M : List Dl}, o.is W S u M → Ap Ra S → o.is w' S u M ∧ Ap R' S := fun {o S u M} ho ha =>
    ⟨ho.keep hk (fun y hy hm => ha y hm hy) h1.kind, fun y hy hm => by
      rcases hn y hy with q | q
      · exact ha y q hm
      · have := ho.lt y hm; omega⟩
  refine ⟨R', v', L', Rb, vb, Lb, Rc, vc, Lc, Rd, vd, Ld, hi, (off h2 d1).1, (off h3 d2).1, (off h4 d3).1, (off h2 d1).2, (off h3 d2).2, (off h4 d3).2, d4, d5, d6, fun y hy => ?_, f2, f3, f4, k.past hk (fun y hy hl => by have := f1 y hy; omega)⟩
  rcases hn y hy with q | q
  · exact f1 y q
  · omega
theorem Qd.sstep {x p : Option Addr} (h : Qd w0 W (sOb x p) b c d) {rb : Addr} (hp : p = some rb) (k t q : Int) : ∃ X P, x = some X ∧ rb = P ∧ Calls Try.prog 12 #[.pointer (some X), .pointer (some P), .agg #[.int .i64 k, .int .i64 t, .int .i64 q]] W fun e w' => ∃ x', e = .returned (.tuple #[.pointer x', .pointer (some P), .bool true]) ∧ Qd w0 w' (sOb x' p) b c d := by
  obtain ⟨R, v, L, hi, hf⟩ := h.first
  rcases hi with ⟨sb, r, e1, e2, hP, hK⟩ | ⟨-, e2, -⟩
  · simp only at e1 e2
    rw [hp] at e2
    cases e2
    refine ⟨_, _, e1, rfl, (do_any W sb r R v L k t q hP hK).mono ?_⟩
    rintro e w' ⟨sb', R', rfl, g1, g2, g3⟩
    exact ⟨_, rfl, hf w' _ R' _ _ (.inl ⟨sb', r, rfl, hp, g1, hK.step hP.ok k t q⟩) g2 g3⟩
  · rw [hp] at e2
    cases e2
theorem Qd.bstep {x p : Option Addr} (h : Qd w0 W (bOb x p) b c d) {rb : Addr} (hp : p = some rb) (k t q : Int) : ∃ X P, x = some X ∧ rb = P ∧ Calls Try.prog 20 #[.pointer (some X), .pointer (some P), .agg #[.int .i64 k, .int .i64 t, .int .i64 q]] W fun e w' => ∃ x', e = .returned (.tuple #[.pointer x', .pointer (some P), .bool true]) ∧ Qd w0 w' (bOb x' p) b c d := by
  obtain ⟨R, v, L, hi, hf⟩ := h.first
  rcases hi with ⟨sb, r, e1, e2, hP, hK⟩ | ⟨-, e2, -⟩
  · simp only at e1 e2
    rw [hp] at e2
    cases e2
    refine ⟨_, _, e1, rfl, (around_any W sb r R v L k t q hP hK).mono ?_⟩
    rintro e w' ⟨sb', R', rfl, g1, g2, g3⟩
    exact ⟨_, rfl, hf w' _ R' _ _ (.inl ⟨sb', r, rfl, hp, g1, hK.step k t q⟩) g2 g3⟩
  · rw [hp] at e2
    cases e2
/-- One of them, with its blocks. -/
theorem Qd.view (h : Qd w0 W a b c d) : ∃ R v L, a.is W R v L := by
  obtain ⟨R, v, L, hi, -⟩ := h.first
  exact ⟨R, v, L, hi⟩
theorem Ob.is.open (h : o.is W R v L) : ∃ R1, Sv o.T W o.x R1 v L ∧ (R1.isEmpty = o.p.isNone) ∧ ((o.p = none ∧ v = 0 ∧ L = []) ∨ ∃ rb q, o.p = some ⟨rb, 0, none⟩ ∧ Rm o.T' W rb q v L ∧ L.length ≤ 16) := by
  rcases h with ⟨sb, rb, e1, e2, ⟨R1, q, -, h1, h2, -⟩, -⟩ | ⟨e1, e2, -, rfl, rfl⟩
  · refine ⟨R1, ?_, ?_, .inr ⟨rb, q, e2, h2, h1.ok.len⟩⟩
    · rw [e1]; exact h1.sv
    · rw [e2]
      obtain ⟨-, wb, R0, rfl, -⟩ := h1
      rfl
  · exact ⟨[], by rw [e1]; exact Zs.sv (.inl rfl), by rw [e2]; rfl, .inl ⟨e2, rfl, rfl⟩⟩
theorem same_pick {p q : Option Addr} {R1 R2 : List Nat} (e1 : R1.isEmpty = p.isNone) (e2 : R2.isEmpty = q.isNone) : decide (R1.isEmpty = R2.isEmpty) = decide (p.isSome = q.isSome) := by
  rw [e1, e2]
  cases p <;> cases q <;> rfl

theorem Qd.ssame {x p y q : Option Addr} (h : Qd w0 W (sOb x p) b (sOb y q) d) : ∃ B, Calls Try.prog 24 #[.pointer x, .pointer y] W (fun e w' => e = .returned (.bool B) ∧ Kp W w' []) ∧ ∀ W', Kp W W' [] → Calls Try.prog 25 #[.pointer p, .pointer q] W' (fun e w' => e = .returned (.bool B) ∧ Kp W' w' []) := by
  obtain ⟨R1, v, L, h1⟩ := h.view
  obtain ⟨R2, u, M, h2⟩ := h.rot.rot.view
  obtain ⟨S1, s1, e1, o1⟩ := h1.open
  obtain ⟨S2, s2, e2, o2⟩ := h2.open
  refine ⟨_, Go.Proofs.Ytpkaeanagdhmiaa.ssame W x y S1 S2 v u L M s1 s2, fun W' hk => ?_⟩
  rw [same_pick e1 e2]
  simp only at o1 o2
  rcases o1 with ⟨rfl, rfl, rfl⟩ | ⟨rb, r1, rfl, g1, l1⟩ <;> rcases o2 with ⟨rfl, rfl, rfl⟩ | ⟨rb2, r2, rfl, g2, l2⟩
  · refine (rssame_no W' none none (.inl rfl)).mono ?_
    rintro e w' ⟨rfl, rfl⟩
    exact ⟨rfl, Kp.refl _ _⟩
  · refine (rssame_no W' none _ (.inl rfl)).mono ?_
    rintro e w' ⟨rfl, rfl⟩
    exact ⟨by simp, Kp.refl _ _⟩
  · refine (rssame_no W' _ none (.inr rfl)).mono ?_
    rintro e w' ⟨rfl, rfl⟩
    exact ⟨by simp, Kp.refl _ _⟩
  · refine (rssame W' rb r1 rb2 r2 v u L M (g1.same hk) (g2.same hk) l1 l2).mono ?_
    rintro e w' ⟨rfl, hw⟩
    exact ⟨by simp, hw⟩

theorem Qd.bsame {x p y q : Option Addr} (h : Qd w0 W (bOb x p) b (bOb y q) d) : ∃ B, Calls Try.prog 26 #[.pointer x, .pointer y] W (fun e w' => e = .returned (.bool B) ∧ Kp W w' []) ∧ ∀ W', Kp W W' [] → Calls Try.prog 27 #[.pointer p, .pointer q] W' (fun e w' => e = .returned (.bool B) ∧ Kp W' w' []) := by
  obtain ⟨R1, v, L, h1⟩ := h.view
  obtain ⟨R2, u, M, h2⟩ := h.rot.rot.view
  obtain ⟨S1, s1, e1, o1⟩ := h1.open
  obtain ⟨S2, s2, e2, o2⟩ := h2.open
  refine ⟨_, Go.Proofs.Ytpkaeanagdhmiaa.bsame W x y S1 S2 v u L M s1 s2, fun W' hk => ?_⟩
  rw [same_pick e1 e2]
  simp only at o1 o2
  rcases o1 with ⟨rfl, rfl, rfl⟩ | ⟨rb, r1, rfl, g1, l1⟩ <;> rcases o2 with ⟨rfl, rfl, rfl⟩ | ⟨rb2, r2, rfl, g2, l2⟩
  · refine (rbsame_no W' none none (.inl rfl)).mono ?_
    rintro e w' ⟨rfl, rfl⟩
    exact ⟨rfl, Kp.refl _ _⟩
  · refine (rbsame_no W' none _ (.inl rfl)).mono ?_
    rintro e w' ⟨rfl, rfl⟩
    exact ⟨by simp, Kp.refl _ _⟩
  · refine (rbsame_no W' _ none (.inr rfl)).mono ?_
    rintro e w' ⟨rfl, rfl⟩
    exact ⟨by simp, Kp.refl _ _⟩
  · refine (rbsame W' rb r1 rb2 r2 v u L M (g1.same hk) (g2.same hk) l1 l2).mono ?_
    rintro e w' ⟨rfl, hw⟩
    exact ⟨by simp, hw⟩

theorem Qd.self {x p : Option Addr} (h : Qd w0 W (sOb x p) b c d) : Calls Try.prog 24 #[.pointer x, .pointer x] W (fun e w' => e = .returned (.bool true) ∧ Kp W w' []) := by
  obtain ⟨R1, v, L, h1⟩ := h.view
  obtain ⟨S1, s1, -, -⟩ := h1.open
  refine (Go.Proofs.Ytpkaeanagdhmiaa.ssame W x x S1 S1 v v L L s1 s1).mono ?_
  rintro e w' ⟨rfl, hk⟩
  exact ⟨by simp, hk⟩

/-! ### Making them -/
/-- One that was made, or refused. -/
def MkS (T lo hi : Nat) (w w' : World) (n : Int) (x : Option Addr) : Prop := (∃ sb R, (lo : Int) ≤ n ∧ n ≤ hi ∧ x = some ⟨sb, 0, none⟩ ∧ Sm T w' sb R n [] ∧ (∀ k ∈ R, w.heap.size ≤ k) ∧ Kp w w' []) ∨ (¬ ((lo : Int) ≤ n ∧ n ≤ hi) ∧ x = none ∧ w' = w)
def MkR (T lo hi : Nat) (w w' : World) (n : Int) (p : Option Addr) : Prop := (∃ rb q, (lo : Int) ≤ n ∧ n ≤ hi ∧ p = some ⟨rb, 0, none⟩ ∧ Rm T w' rb q n [] ∧ w.heap.size ≤ rb ∧ w.heap.size ≤ q ∧ Kp w w' []) ∨ (¬ ((lo : Int) ≤ n ∧ n ≤ hi) ∧ p = none ∧ w' = w)
theorem MkS.kp {T lo hi : Nat} {w w' : World} {n : Int} {x : Option Addr} (h : MkS T lo hi w w' n x) : Kp w w' [] := by
  rcases h with ⟨sb, R, -, -, -, -, -, h⟩ | ⟨-, -, rfl⟩
  · exact h
  · exact Kp.refl _ _
theorem MkR.kp {T lo hi : Nat} {w w' : World} {n : Int} {x : Option Addr} (h : MkR T lo hi w w' n x) : Kp w w' [] := by
  rcases h with ⟨rb, q, -, -, -, -, -, -, h⟩ | ⟨-, -, rfl⟩
  · exact h
  · exact Kp.refl _ _
theorem mk_s (w : World) (n : Int) : Calls Try.prog 8 #[.int .i64 n] w fun e w' => ∃ x E, e = .returned (.tuple #[.pointer x, .int .i64 E]) ∧ MkS 74 0 32767 w w' n x := by
  by_cases h : (0 : Int) ≤ n ∧ n ≤ 32767
  · refine (snew w n h.1 h.2).mono ?_
    rintro e w' ⟨sb, R, rfl, h1, h2, h3⟩
    exact ⟨_, _, rfl, .inl ⟨sb, R, h.1, h.2, rfl, h1, h2, h3⟩⟩
  · refine (snew_no w n (by omega)).mono ?_
    rintro e w' ⟨rfl, rfl⟩
    exact ⟨_, _, rfl, .inr ⟨h, rfl, rfl⟩⟩
theorem mk_b (w : World) (n : Int) : Calls Try.prog 18 #[.int .i64 n] w fun e w' => ∃ x E, e = .returned (.tuple #[.pointer x, .int .i64 E]) ∧ MkS 76 1 16 w w' n x := by
  by_cases h : (1 : Int) ≤ n ∧ n ≤ 16
  · refine (bnew w n h.1 h.2).mono ?_
    rintro e w' ⟨sb, R, rfl, h1, h2, h3⟩
    exact ⟨_, _, rfl, .inl ⟨sb, R, h.1, h.2, rfl, h1, h2, h3⟩⟩
  · refine (bnew_no w n (by omega)).mono ?_
    rintro e w' ⟨rfl, rfl⟩
    exact ⟨_, _, rfl, .inr ⟨h, rfl, rfl⟩⟩
theorem mk_rs (w : World) (n : Int) : Calls Try.prog 9 #[.int .i64 n] w fun e w' => ∃ p, e = .returned (.pointer p) ∧ MkR 38 0 32767 w w' n p := by
  by_cases h : (0 : Int) ≤ n ∧ n ≤ 32767
  · refine (rsnew w n h.1 h.2).mono ?_
    rintro e w' ⟨rb, rfl, q, h1, h2, h3, h4⟩
    exact ⟨_, rfl, .inl ⟨rb, q, h.1, h.2, rfl, h1, h2, h3, h4⟩⟩
  · refine (rsnew_no w n (by omega)).mono ?_
    rintro e w' ⟨rfl, rfl⟩
    exact ⟨_, rfl, .inr ⟨h, rfl, rfl⟩⟩
theorem mk_rb (w : World) (n : Int) : Calls Try.prog 19 #[.int .i64 n] w fun e w' => ∃ p, e = .returned (.pointer p) ∧ MkR 54 1 16 w w' n p := by
  by_cases h : (1 : Int) ≤ n ∧ n ≤ 16
  · refine (rbnew w n h.1 h.2).mono ?_
    rintro e w' ⟨rb, rfl, q, h1, h2, h3, h4⟩
    exact ⟨_, rfl, .inl ⟨rb, q, h.1, h.2, rfl, h1, h2, h3, h4⟩⟩
  · refine (rbnew_no w n (by omega)).mono ?_
    rintro e w' ⟨rfl, rfl⟩
    exact ⟨_, rfl, .inr ⟨h, rfl, rfl⟩⟩
/-- Both of a pair were made: where their blocks lie. -/
theorem mk_pair {T T' lo hi : Nat} {K : Int → List Dl → Prop} {A B C D E : World} {n : Int} {x p : Option Addr} (h1 : MkS T lo hi A B n x) (k1 : Kp B C []) (h2 : MkR T' lo hi C D n p) (k2 : Kp D E []) (hK : (lo : Int) ≤ n → n ≤ hi → K n []) :
    ∃ R v L, Ob.is ⟨T, T', K, x, p⟩ E R v L ∧ ∀ k ∈ R, (A.heap.size ≤ k ∧ k < B.heap.size) ∨ (C.heap.size ≤ k ∧ k < D.heap.size) := by
  have s1 := h1.kp.size
  have s2 := k1.size
  rcases h1 with ⟨sb, R, l1, l2, rfl, g1, g2, -⟩ | ⟨l1, rfl, rfl⟩
  · rcases h2 with ⟨rb, q, -, -, rfl, g3, g4, g5, g6⟩ | ⟨l3, -, -⟩
    · have hl := g3.lt
      refine ⟨R ++ [rb, q], n, [], .inl ⟨sb, rb, rfl, rfl, ⟨R, q, rfl, ((g1.same k1).same g6).same k2, g3.same k2, fun hm => ?_, fun hm => ?_⟩, hK l1 l2⟩, fun k hk => ?_⟩
      · have := g1.lt _ hm; omega
      · have := g1.lt _ hm; omega
      · simp at hk
        rcases hk with hk | rfl | rfl
        · exact .inl ⟨g2 k hk, g1.lt k hk⟩
        · exact .inr ⟨g4, hl.1⟩
        · exact .inr ⟨g5, hl.2⟩
    · exact absurd ⟨l1, l2⟩ l3
  · rcases h2 with ⟨rb, q, l2, l3, -, -⟩ | ⟨-, rfl, -⟩
    · exact absurd ⟨l2, l3⟩ l1
    · exact ⟨[], 0, [], .inr ⟨rfl, rfl, rfl, rfl, rfl⟩, by simp⟩
/-- All eight. -/
theorem qd_new {w w1 w2 w3 w4 w5 w6 w7 w8 w9 w10 w11 w12 : World} {m n : Int} {x p y q u c v d : Option Addr} (k0 : Kp w w1 []) (hx : MkS 74 0 32767 w1 w2 m x) (hy : MkS 74 0 32767 w2 w3 n y) (k3 : Kp w3 w4 []) (hp : MkR 38 0 32767 w4 w5 m p) (hq : MkR 38 0 32767 w5 w6 n q) (k6 : Kp w6 w7 []) (hu : MkS 76 1 16 w7 w8 m u) (hv : MkS 76 1 16 w8 w9 n v) (k9 : Kp w9 w10 []) (hc : MkR 54 1 16 w10 w11 m c) (hd : MkR 54 1 16 w11 w12 n d) : Qd w w12 (sOb x p) (bOb u c) (sOb y q) (bOb v d) := by
  have e0 := k0.size
  have e1 := hx.kp.size
  have e2 := hy.kp.size
  have e3 := k3.size
  have e4 := hp.kp.size
  have e5 := hq.kp.size
  have e6 := k6.size
  have e7 := hu.kp.size
  have e8 := hv.kp.size
  have e9 := k9.size
  have e10 := hc.kp.size
  have e11 := hd.kp.size
  have K1 : ∀ n : Int, ((0 : Nat) : Int) ≤ n → n ≤ ((32767 : Nat) : Int) → Sok n [] := fun n a b => ⟨by omega, by omega, fun _ => rfl⟩
  have K2 : ∀ n : Int, ((1 : Nat) : Int) ≤ n → n ≤ ((16 : Nat) : Int) → Bok n [] := fun n a b => ⟨by omega, by omega, by simp; omega⟩
  have q12 := (((((hq.kp.trans k6).trans hu.kp).trans hv.kp).trans k9).trans hc.kp).trans hd.kp
  have q12b := ((((k6.trans hu.kp).trans hv.kp).trans k9).trans hc.kp).trans hd.kp
  obtain ⟨Ra, va, La, ia, fa⟩ := mk_pair (K := Sok) hx (hy.kp.trans k3) hp q12 (K1 m)
  obtain ⟨Rb, vb, Lb, ib, fb⟩ := mk_pair (K := Bok) hu (hv.kp.trans k9) hc hd.kp (K2 m)
  obtain ⟨Rc, vc, Lc, ic, fc⟩ := mk_pair (K := Sok) hy (k3.trans hp.kp) hq q12b (K1 n)
  obtain ⟨Rd, vd, Ld, id, fd⟩ := mk_pair (K := Bok) hv (k9.trans hc.kp) hd (Kp.refl _ []) (K2 n)
  refine ⟨Ra, va, La, Rb, vb, Lb, Rc, vc, Lc, Rd, vd, Ld, ia, ib, ic, id, fun k h1 h2 => ?_, fun k h1 h2 => ?_, fun k h1 h2 => ?_, fun k h1 h2 => ?_, fun k h1 h2 => ?_, fun k h1 h2 => ?_, fun k h1 => ?_, fun k h1 => ?_, fun k h1 => ?_, fun k h1 => ?_, ?_⟩
  · have := fa k h1; have := fb k h2; omega
  · have := fa k h1; have := fc k h2; omega
  · have := fa k h1; have := fd k h2; omega
  · have := fb k h1; have := fc k h2; omega
  · have := fb k h1; have := fd k h2; omega
  · have := fc k h1; have := fd k h2; omega
  · have := fa k h1; omega
  · have := fb k h1; omega
  · have := fc k h1; omega
  · have := fd k h1; omega
  · exact ((((k0.trans hx.kp).trans hy.kp).trans k3).trans hp.kp).trans q12
end Go.Proofs.Ytpkaeanagdhmiaa
