/- Two sides, each of which may not be there; apart. -/
import Derived.Test.YtoenipaccnpihaaOs
import Derived.Test.YtoenipaccnpihaaClr
import Derived.Test.YtoenipaccnpihaaStepsW
namespace Go.Proofs.Ytoenipaccnpihaa
open Go.RowKit Go.Shelf Go.Sort Go.Maps
open Go.Lib hiding intOf
attribute [local go_sem] Oper.semAt_some

theorem rsame_nn (w : World) : Calls Try.prog 14 #[.pointer none, .pointer none] w fun e w' => e = .returned (.bool true) ∧ Kp w w' [] := by
  go_enter Try.func14, Try.ntmps14
  go_wp2
  go_ret
  exact ⟨rfl, Kp.refl _ _⟩
theorem rsame_ns (w : World) (a : Addr) : Calls Try.prog 14 #[.pointer none, .pointer (some a)] w fun e w' => e = .returned (.bool false) ∧ Kp w w' [] := by
  go_enter Try.func14, Try.ntmps14
  go_wp2
  go_ret
  exact ⟨rfl, Kp.refl _ _⟩
theorem rsame_sn (w : World) (a : Addr) : Calls Try.prog 14 #[.pointer (some a), .pointer none] w fun e w' => e = .returned (.bool false) ∧ Kp w w' [] := by
  go_enter Try.func14, Try.ntmps14
  go_wp2
  go_ret
  exact ⟨rfl, Kp.refl _ _⟩
/-- A side: neither is there, or both are, at most so many pending. -/
def Sd (W : World) (x p : Option Addr) (R : List Nat) (m : Nat) : Prop := (x = none ∧ p = none ∧ R = []) ∨ ∃ sb rb R1 Q1 T S M L, x = some ⟨sb, 0, none⟩ ∧ p = some ⟨rb, 0, none⟩ ∧ R = R1 ++ Q1 ∧ Pa W sb rb R1 Q1 T S M L ∧ L.length ≤ m
section
variable {w0 W W' : World} {x p y q : Option Addr} {R : List Nat} {m k : Nat}
theorem Sd.lt (h : Sd W x p R m) : ∀ k ∈ R, k < W.heap.size := by
  rcases h with ⟨-, -, rfl⟩ | ⟨sb, rb, R1, Q1, T, S, M, L, -, -, rfl, h, -⟩
  · simp
  · exact h.lt
theorem Sd.keep (h : Sd W x p R m) {rs : List Nat} (hk : Kp W W' rs) (hr : ∀ k ∈ R, k ∉ rs) : Sd W' x p R m := by
  rcases h with h | ⟨sb, rb, R1, Q1, T, S, M, L, e1, e2, rfl, h, hl⟩
  · exact .inl h
  · exact .inr ⟨sb, rb, R1, Q1, T, S, M, L, e1, e2, rfl, h.keep hk hr, hl⟩
/-- Two of them, apart, made behind w0. -/
def O2 (w0 W : World) (x p y q : Option Addr) (m k : Nat) : Prop := ∃ R1 R2, Sd W x p R1 m ∧ Sd W y q R2 k ∧ (∀ j ∈ R1, j ∉ R2) ∧ (∀ j ∈ R1, w0.heap.size ≤ j) ∧ (∀ j ∈ R2, w0.heap.size ≤ j) ∧ Kp w0 W []
theorem O2.kp (h : O2 w0 W x p y q m k) : Kp w0 W [] := by
  obtain ⟨_, _, -, -, -, -, -, h⟩ := h
  exact h
theorem O2.swap (h : O2 w0 W x p y q m k) : O2 w0 W y q x p k m := by
  obtain ⟨R1, R2, h1, h2, h3, h4, h5, h6⟩ := h
  exact ⟨R2, R1, h2, h1, fun j hj hm => h3 j hm hj, h5, h4, h6⟩
theorem O2.same (h : O2 w0 W x p y q m k) (hk : Kp W W' []) : O2 w0 W' x p y q m k := by
  obtain ⟨R1, R2, h1, h2, h3, h4, h5, h6⟩ := h
  exact ⟨R1, R2, h1.keep hk (by simp), h2.keep hk (by simp), h3, h4, h5, h6.trans hk⟩
theorem O2.step (P : ClearOk) {P0 : Addr} (h : O2 w0 W x (some P0) y q m k) (hm : m ≤ 600) (c t n v : Int) (z : Nat) (hz : z < 4294967296) : Calls Try.prog 11 #[.pointer x, .pointer (some P0), .agg #[.int .i64 c, .int .i64 t, .int .i64 n, .int .i64 v, .int .u32 z]] W fun e w' => ∃ x', e = .returned (.tuple #[.pointer x', .pointer (some P0), .bool true]) ∧ O2 w0 w' x' (some P0) y q (m + 1) k := by
  obtain ⟨R1, R2, h1, h2, h3, h4, h5, h6⟩ := h
  rcases h1 with ⟨-, e, -⟩ | ⟨sb, rb, Ra, Qa, T, S, M, L, rfl, e2, rfl, hP, hl⟩
  · cases e
  · cases e2
    refine (do_any P W sb rb Ra Qa T S M L c t n v z hz (by omega) hP).mono ?_
    rintro e w' ⟨sb', R', Q', rfl, g1, g2, hk⟩
    refine ⟨some ⟨sb', 0, none⟩, rfl, R' ++ Q', R2, .inr ⟨sb', rb, R', Q', T, S, _, _, rfl, rfl, rfl, g1, ?_⟩, h2.keep hk (fun j hj hm => h3 j hm hj), fun j hj hm => ?_, fun j hj => ?_, h5, h6.past hk (fun j hj hl => by have := h4 j hj; omega)⟩
    · have := stL_len T S L c t n v z
      omega
    · rcases g2 j hj with q | q
      · exact h3 j q hm
      · have := h2.lt j hm; omega
    · rcases g2 j hj with q | q
      · exact h4 j q
      · have := h6.size; omega
theorem O2.sames (h : O2 w0 W x p y q m k) (hm : m ≤ 600) (hk : k ≤ 600) : ∃ B, Calls Try.prog 13 #[.pointer x, .pointer y] W (fun e w' => e = .returned (.bool B) ∧ Kp W w' []) ∧ ∀ W', Kp W W' [] → Calls Try.prog 14 #[.pointer p, .pointer q] W' (fun e w' => e = .returned (.bool B) ∧ Kp W' w' []) := by
  obtain ⟨R1, R2, h1, h2, -⟩ := h
  rcases h1 with ⟨rfl, rfl, -⟩ | ⟨sb, rb, Ra, Qa, T, S, M, L, rfl, rfl, -, hP, hl⟩
  · rcases h2 with ⟨rfl, rfl, -⟩ | ⟨sc, rc, Rb, Qb, T2, S2, M2, L2, rfl, rfl, -, hP2, hl2⟩
    · exact ⟨true, same_none W none none (.inl rfl) (.inl rfl), fun W' _ => rsame_nn W'⟩
    · exact ⟨false, same_left W none sc Rb T2 S2 M2 L2 (.inl rfl) hP2.1, fun W' _ => rsame_ns W' _⟩
  · rcases h2 with ⟨rfl, rfl, -⟩ | ⟨sc, rc, Rb, Qb, T2, S2, M2, L2, rfl, rfl, -, hP2, hl2⟩
    · exact ⟨false, same_right W none sb Ra T S M L hP.1 (.inl rfl), fun W' _ => rsame_sn W' _⟩
    · refine ⟨_, same_both W sb sc Ra Rb T S T2 S2 M M2 L L2 hP.1 hP2.1, fun W' hW => ?_⟩
      rw [same_eq hP.1.ok hP2.1.ok hP.1.bd.1.2]
      exact rsame_any W' rb rc Qa Qb T S T2 S2 M M2 L L2 (hP.2.1.same hW) (hP2.2.1.same hW) hP.1.ok hP2.1.ok (by omega) (by omega) hP.1.bd.1.2
theorem O2.self (h : O2 w0 W x p y q m k) : Calls Try.prog 13 #[.pointer x, .pointer x] W (fun e w' => e = .returned (.bool true) ∧ Kp W w' []) := by
  obtain ⟨R1, R2, h1, h2, -⟩ := h
  rcases h1 with ⟨rfl, rfl, -⟩ | ⟨sb, rb, Ra, Qa, T, S, M, L, rfl, rfl, -, hP, hl⟩
  · exact same_none W none none (.inl rfl) (.inl rfl)
  · have := same_both W sb sb Ra Ra T S T S M M L L hP.1 hP.1
    rw [sameS_refl] at this
    exact this
/-- What New has made, if anything. -/
def Nx (w W : World) (x : Option Addr) (R : List Nat) (a b : Int) : Prop := (∀ j ∈ R, w.heap.size ≤ j) ∧ ((¬ ((1 ≤ a ∧ a ≤ 16) ∧ 1 ≤ b ∧ b ≤ 32) ∧ x = none ∧ R = []) ∨ ∃ sb, ∃ T S : Nat, a = T ∧ b = S ∧ ((1 ≤ T ∧ T ≤ 16) ∧ 1 ≤ S ∧ S ≤ 32) ∧ x = some ⟨sb, 0, none⟩ ∧ Sg W sb R T S (fun _ => 0) [])
def Rx (w W : World) (p : Option Addr) (Q : List Nat) (a b : Int) : Prop := (∀ j ∈ Q, w.heap.size ≤ j) ∧ ((¬ ((1 ≤ a ∧ a ≤ 16) ∧ 1 ≤ b ∧ b ≤ 32) ∧ p = none ∧ Q = []) ∨ ∃ rb, ∃ T S : Nat, a = T ∧ b = S ∧ ((1 ≤ T ∧ T ≤ 16) ∧ 1 ≤ S ∧ S ≤ 32) ∧ p = some ⟨rb, 0, none⟩ ∧ Rm W rb Q T S (fun _ => 0) [])
theorem new_any (w : World) (a b : Int) : Calls Try.prog 7 #[.int .i64 a, .int .i64 b] w fun e w' => ∃ x E R, e = .returned (.tuple #[.pointer x, .int .i64 E]) ∧ Nx w w' x R a b ∧ Kp w w' [] := by
  rcases new_or a b with hno | ⟨T, S, rfl, rfl, hT, hS⟩
  · refine (new_no w a b hno).mono ?_
    rintro e w1 ⟨rfl, k1⟩
    exact ⟨none, 2, [], rfl, ⟨by simp, .inl ⟨hno, rfl, rfl⟩⟩, k1⟩
  · refine (new_yes w T S hT.1 hT.2 hS.1 hS.2).mono ?_
    rintro e w1 ⟨sb, R1, rfl, hx, hx1, hx2⟩
    exact ⟨_, 0, R1, rfl, ⟨hx1, .inr ⟨sb, T, S, rfl, rfl, ⟨hT, hS⟩, rfl, hx⟩⟩, hx2⟩
theorem rnew_any (w : World) (a b : Int) : Calls Try.prog 8 #[.int .i64 a, .int .i64 b] w fun e w' => ∃ p Q, e = .returned (.pointer p) ∧ Rx w w' p Q a b ∧ Kp w w' [] := by
  rcases new_or a b with hno | ⟨T, S, rfl, rfl, hT, hS⟩
  · refine (rnew_no w a b hno).mono ?_
    rintro e w1 ⟨rfl, k1⟩
    exact ⟨none, [], rfl, ⟨by simp, .inl ⟨hno, rfl, rfl⟩⟩, k1⟩
  · refine (rnew_yes w T S hT.1 hT.2 hS.1 hS.2).mono ?_
    rintro e w1 ⟨rb, rfl, hx, hx1, hx2⟩
    exact ⟨_, [rb], rfl, ⟨by simpa using hx1, .inr ⟨rb, T, S, rfl, rfl, ⟨hT, hS⟩, rfl, hx⟩⟩, hx2⟩
theorem sd_new {w w1 w2 w3 w4 : World} {a b : Int} {R Q : List Nat} (h : Nx w w1 x R a b) (k1 : Kp w1 w2 []) (h' : Rx w2 w3 p Q a b) (k3 : Kp w3 w4 []) (k2 : Kp w2 w3 []) : Sd w4 x p (R ++ Q) 0 := by
  rcases h.2 with ⟨hn, rfl, rfl⟩ | ⟨sb, T, S, rfl, rfl, hb, rfl, hs⟩
  · rcases h'.2 with ⟨-, rfl, rfl⟩ | ⟨rb, T, S, rfl, rfl, hb, rfl, hr⟩
    · exact .inl ⟨rfl, rfl, rfl⟩
    · exact absurd (by omega) hn
  · rcases h'.2 with ⟨hn, -, -⟩ | ⟨rb, T', S', e1, e2, -, rfl, hr⟩
    · exact absurd (by omega) hn
    · obtain rfl : T = T' := by omega
      obtain rfl : S = S' := by omega
      refine .inr ⟨sb, rb, R, Q, T, S, _, _, rfl, rfl, rfl, ⟨((hs.same k1).same k2).same k3, hr.same k3, fun j hj hq => ?_⟩, by simp⟩
      have := hs.lt j hj
      have := h'.1 j hq
      have := k1.size
      omega
theorem Nx.lt {w : World} {a b : Int} (h : Nx w W x R a b) : ∀ j ∈ R, j < W.heap.size := by
  rcases h.2 with ⟨-, -, rfl⟩ | ⟨sb, T, S, -, -, -, -, hs⟩
  · simp
  · exact hs.lt
theorem Rx.lt {w : World} {a b : Int} (h : Rx w W x R a b) : ∀ j ∈ R, j < W.heap.size := by
  rcases h.2 with ⟨-, -, rfl⟩ | ⟨sb, T, S, -, -, -, -, hs⟩
  · simp
  · exact hs.lt
theorem o2_new {W0 w1 w2 w3 w4 w5 : World} {a b c d : Int} {R1 R2 Q1 Q2 : List Nat} (n1 : Nx W0 w1 x R1 a b) (n2 : Nx w1 w2 y R2 c d) (r1 : Rx w3 w4 p Q1 a b) (r2 : Rx w4 w5 q Q2 c d) (k1 : Kp W0 w1 []) (k2 : Kp w1 w2 []) (k3 : Kp w2 w3 []) (k4 : Kp w3 w4 []) (k5 : Kp w4 w5 []) : O2 W0 w5 x p y q 0 0 := by
  have s1 := k1.size
  have s2 := k2.size
  have s3 := k3.size
  have s4 := k4.size
  refine ⟨R1 ++ Q1, R2 ++ Q2, sd_new n1 (k2.trans k3) r1 k5 k4, sd_new n2 (k3.trans k4) r2 (Kp.refl _ _) k5, fun j hj hm => ?_, fun j hj => ?_, fun j hj => ?_, k1.trans (k2.trans (k3.trans (k4.trans k5)))⟩
  · rcases List.mem_append.1 hj with hj | hj
    · have := n1.lt j hj
      rcases List.mem_append.1 hm with hm | hm
      · have := n2.1 j hm; omega
      · have := r2.1 j hm; omega
    · have := r1.1 j hj
      have := r1.lt j hj
      rcases List.mem_append.1 hm with hm | hm
      · have := n2.lt j hm; omega
      · have := r2.1 j hm; omega
  · rcases List.mem_append.1 hj with hj | hj
    · exact n1.1 j hj
    · have := r1.1 j hj; omega
  · rcases List.mem_append.1 hj with hj | hj
    · have := n2.1 j hj; omega
    · have := r2.1 j hj; omega
end
end Go.Proofs.Ytoenipaccnpihaa
