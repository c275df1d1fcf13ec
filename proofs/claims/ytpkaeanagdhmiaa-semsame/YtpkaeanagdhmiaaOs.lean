/- One side alone: a semaphore or barrier and the reference's. -/
import Derived.Test.YtpkaeanagdhmiaaDo
import Derived.Test.YtpkaeanagdhmiaaAr
import Derived.Test.YtpkaeanagdhmiaaKn
namespace Go.Proofs.Ytpkaeanagdhmiaa
open Go.RowKit Go.Shelf Go.Lib Go.Sort Go.Maps
theorem ints_yes (w : World) (b1 b2 : Nat) (v1 v2 : Value) (l : List Int) (h1 : Ns w b1 v1 l) (h2 : Ns w b2 v2 l) (hl : l.length ≤ 100000) : Calls Try.prog 15 #[v1, v2] w fun e w' => e = .returned (.bool true) ∧ Kp w w' [] := by
  refine (ints_any w b1 b2 v1 v2 l l h1 h2 hl).mono ?_
  rintro e w' ⟨rfl, hk⟩
  exact ⟨by simp, hk⟩
theorem to_kp {f : Nat} {args : Array Value} {w : World} {Q : Ending → Prop} (h : Calls Try.prog f args w fun e w' => Q e ∧ w' = w) : Calls Try.prog f args w fun e w' => Q e ∧ Kp w w' [] := h.mono fun _ _ ⟨a, b⟩ => ⟨a, by rw [b]; exact Kp.refl _ _⟩

/-- One side, made behind w0. -/
def Oss (w0 W : World) (sb rb : Nat) : Prop := ∃ R v L, Pa 74 38 W sb rb R v L ∧ Sok v L ∧ (∀ k ∈ R, w0.heap.size ≤ k) ∧ Kp w0 W []
theorem Oss.kp {w0 W : World} {sb rb : Nat} (h : Oss w0 W sb rb) : Kp w0 W [] := by
  obtain ⟨R, v, L, -, -, -, h⟩ := h
  exact h
theorem Oss.same {w0 W W' : World} {sb rb : Nat} (h : Oss w0 W sb rb) (hk : Kp W W' []) : Oss w0 W' sb rb := by
  obtain ⟨R, v, L, h1, h2, h3, h4⟩ := h
  exact ⟨R, v, L, h1.same hk, h2, h3, h4.trans hk⟩
theorem Oss.step {w0 W : World} {sb rb : Nat} (h : Oss w0 W sb rb) (k t p : Int) : Calls Try.prog 12 #[.pointer (some ⟨sb, 0, none⟩), .pointer (some ⟨rb, 0, none⟩), .agg #[.int .i64 k, .int .i64 t, .int .i64 p]] W fun e w' => ∃ sb', e = .returned (.tuple #[.pointer (some ⟨sb', 0, none⟩), .pointer (some ⟨rb, 0, none⟩), .bool true]) ∧ Oss w0 w' sb' rb := by
  obtain ⟨R, v, L, HP, HK, h3, h4⟩ := h
  refine (do_any W sb rb R v L k t p HP HK).mono ?_
  rintro e w' ⟨sb', R', rfl, h1, h2, hk⟩
  refine ⟨sb', rfl, R', _, _, h1, HK.step HP.ok k t p, fun x hx => ?_, h4.past hk (fun x hx hl => by have := h3 x hx; omega)⟩
  rcases h2 x hx with q | q
  · exact h3 x q
  · have := h4.size; omega
theorem Oss.new {w w1 w2 : World} {sb rb q : Nat} {R1 : List Nat} {v : Int} (h1 : Sm 74 w1 sb R1 v []) (f1 : ∀ k ∈ R1, w.heap.size ≤ k) (k1 : Kp w w1 []) (h2 : Rm 38 w2 rb q v []) (f2 : w1.heap.size ≤ rb) (f3 : w1.heap.size ≤ q) (k2 : Kp w1 w2 []) (hv : Sok v []) : Oss w w2 sb rb := by
  have := k1.size
  refine ⟨R1 ++ [rb, q], v, [], ⟨R1, q, rfl, h1.same k2, h2, fun hm => ?_, fun hm => ?_⟩, hv, fun k hk => ?_, k1.trans k2⟩
  · have := h1.lt _ hm; omega
  · have := h1.lt _ hm; omega
  · simp at hk
    rcases hk with hk | rfl | rfl
    · exact f1 k hk
    · omega
    · omega

/-- One side, made behind w0. -/
def Osb (w0 W : World) (sb rb : Nat) : Prop := ∃ R v L, Pa 76 54 W sb rb R v L ∧ Bok v L ∧ (∀ k ∈ R, w0.heap.size ≤ k) ∧ Kp w0 W []
theorem Osb.kp {w0 W : World} {sb rb : Nat} (h : Osb w0 W sb rb) : Kp w0 W [] := by
  obtain ⟨R, v, L, -, -, -, h⟩ := h
  exact h
theorem Osb.same {w0 W W' : World} {sb rb : Nat} (h : Osb w0 W sb rb) (hk : Kp W W' []) : Osb w0 W' sb rb := by
  obtain ⟨R, v, L, h1, h2, h3, h4⟩ := h
  exact ⟨R, v, L, h1.same hk, h2, h3, h4.trans hk⟩
theorem Osb.step {w0 W : World} {sb rb : Nat} (h : Osb w0 W sb rb) (k t p : Int) : Calls Try.prog 20 #[.pointer (some ⟨sb, 0, none⟩), .pointer (some ⟨rb, 0, none⟩), .agg #[.int .i64 k, .int .i64 t, .int .i64 p]] W fun e w' => ∃ sb', e = .returned (.tuple #[.pointer (some ⟨sb', 0, none⟩), .pointer (some ⟨rb, 0, none⟩), .bool true]) ∧ Osb w0 w' sb' rb := by
  obtain ⟨R, v, L, HP, HK, h3, h4⟩ := h
  refine (around_any W sb rb R v L k t p HP HK).mono ?_
  rintro e w' ⟨sb', R', rfl, h1, h2, hk⟩
  refine ⟨sb', rfl, R', _, _, h1, HK.step k t p, fun x hx => ?_, h4.past hk (fun x hx hl => by have := h3 x hx; omega)⟩
  rcases h2 x hx with q | q
  · exact h3 x q
  · have := h4.size; omega
theorem Osb.new {w w1 w2 : World} {sb rb q : Nat} {R1 : List Nat} {v : Int} (h1 : Sm 76 w1 sb R1 v []) (f1 : ∀ k ∈ R1, w.heap.size ≤ k) (k1 : Kp w w1 []) (h2 : Rm 54 w2 rb q v []) (f2 : w1.heap.size ≤ rb) (f3 : w1.heap.size ≤ q) (k2 : Kp w1 w2 []) (hv : Bok v []) : Osb w w2 sb rb := by
  have := k1.size
  refine ⟨R1 ++ [rb, q], v, [], ⟨R1, q, rfl, h1.same k2, h2, fun hm => ?_, fun hm => ?_⟩, hv, fun k hk => ?_, k1.trans k2⟩
  · have := h1.lt _ hm; omega
  · have := h1.lt _ hm; omega
  · simp at hk
    rcases hk with hk | rfl | rfl
    · exact f1 k hk
    · omega
    · omega
end Go.Proofs.Ytpkaeanagdhmiaa
