/- Cancellations that a law has made itself, with boxes beside. -/
import Derived.Test.YtjggpchjfglgcaaDo
import Derived.Test.YtjggpchjfglgcaaAl
namespace Go.Proofs.Ytjggpchjfglgcaa
open Go.RowKit Go.Shelf Go.Lib
attribute [local go_sem] Oper.semAt_some

/-- Boxes: where, what they hold, of which type. -/
abbrev Bx := List (Nat × Array Value × Nat)
/-- One that was made here; boxes that are not it. -/
def Kd (w0 W : World) (cb : Nat) (M : Cn) (B : Bx) : Prop := Cc W cb M ∧ w0.heap.size ≤ cb ∧ Kp w0 W [] ∧ ∀ x ∈ B, W.heap[x.1]? = some (.cells x.2.1 x.2.2 (0, 0)) ∧ x.1 ≠ cb ∧ w0.heap.size ≤ x.1
section
variable {w0 W W' : World} {cb : Nat} {M M' : Cn} {B : Bx}
theorem Kd.kp (h : Kd w0 W cb M B) : Kp w0 W [] := h.2.2.1
theorem Kd.cc (h : Kd w0 W cb M B) : Cc W cb M := h.1
theorem Kd.box (h : Kd w0 W cb M B) {x : Nat × Array Value × Nat} (hx : x ∈ B) : W.heap[x.1]? = some (.cells x.2.1 x.2.2 (0, 0)) := (h.2.2.2 x hx).1
theorem Kd.go (h : Kd w0 W cb M B) (hk : Kp W W' []) : Kd w0 W' cb M B :=
  ⟨h.1.same hk, h.2.1, h.2.2.1.trans hk, fun x hx => ⟨(hk.block x.1 (lt_of_block (h.2.2.2 x hx).1) (by simp)).trans (h.2.2.2 x hx).1, (h.2.2.2 x hx).2⟩⟩
theorem Kd.did (h : Kd w0 W cb M B) (hc : Cc W' cb M') (hk : Kp W W' [cb]) : Kd w0 W' cb M' B :=
  ⟨hc, h.2.1, h.2.2.1.past hk (fun k hm hl => by have := h.2.1; simp at hm; omega), fun x hx => ⟨(hk.block x.1 (lt_of_block (h.2.2.2 x hx).1) (by simpa using (h.2.2.2 x hx).2.1)).trans (h.2.2.2 x hx).1, (h.2.2.2 x hx).2⟩⟩
theorem Kd.alloc (h : Kd w0 W cb M B) (c : Array Value) (t : Nat) : Kd w0 (W.alloc (.cells c t)) cb M ((W.heap.size, c, t) :: B) := by
  have hg := h.go (Kp.alloc W (.cells c t) [])
  refine ⟨hg.1, hg.2.1, hg.2.2.1, fun x hx => ?_⟩
  rcases List.mem_cons.1 hx with rfl | hx
  · exact ⟨heap_alloc_new W _, by have := Cw.lt h.1.cw; omega, h.2.2.1.size⟩
  · exact hg.2.2.2 x hx
theorem Kd.new {w1 : World} (hk0 : Kp w0 W []) (hc : Cc w1 W.heap.size newC) (hk : Kp W w1 []) : Kd w0 w1 W.heap.size newC [] := ⟨hc, hk0.size, hk0.trans hk, by simp⟩
theorem Kd.ask (h : Kd w0 W cb M B) {b : Bool} (hb : (!M.a) = b) (hM : { M with a := true } = M') : Calls Try.prog 14 #[.pointer (some ⟨cb, 0, none⟩)] W fun e w' => e = .returned (.tuple #[.bool b, .int .i64 0]) ∧ Kd w0 w' cb M' B := by
  subst hb hM
  refine (ask_any h.1.cw).mono ?_
  rintro e w' ⟨rfl, hc, hk⟩
  exact ⟨rfl, h.did hc hk⟩
theorem Kd.enable (h : Kd w0 W cb M B) (t : Bool) {b : Bool} (hb : M.e = b) (hM : { M with e := t } = M') : Calls Try.prog 15 #[.pointer (some ⟨cb, 0, none⟩), .bool t] W fun e w' => e = .returned (.tuple #[.bool b, .int .i64 0]) ∧ Kd w0 w' cb M' B := by
  subst hb hM
  refine (enable_any h.1.cw t).mono ?_
  rintro e w' ⟨rfl, hc, hk⟩
  exact ⟨rfl, h.did hc hk⟩
theorem Kd.async (h : Kd w0 W cb M B) (t : Bool) {b : Bool} (hb : M.o = b) (hM : { M with o := t } = M') : Calls Try.prog 16 #[.pointer (some ⟨cb, 0, none⟩), .bool t] W fun e w' => e = .returned (.tuple #[.bool b, .int .i64 0]) ∧ Kd w0 w' cb M' B := by
  subst hb hM
  refine (async_any h.1.cw t).mono ?_
  rintro e w' ⟨rfl, hc, hk⟩
  exact ⟨rfl, h.did hc hk⟩
theorem Kd.unwind (h : Kd w0 W cb M B) {E : Int} (hb : unwE M = E) (hM : unwM M = M') : Calls Try.prog 20 #[.pointer (some ⟨cb, 0, none⟩)] W fun e w' => e = .returned (.int .i64 E) ∧ Kd w0 w' cb M' B := by
  subst hb hM
  refine (unwind_any h.1.cw).mono ?_
  rintro e w' ⟨rfl, hc, hk⟩
  exact ⟨rfl, h.did hc hk⟩
theorem Kd.push (h : Kd w0 W cb M B) (hl : M.L.length ≤ 8) (x y : Int) {E : Int} (hb : pushE M x = E) (hM : pushM M x y = M') : Calls Try.prog 18 #[.pointer (some ⟨cb, 0, none⟩), .agg #[.int .i64 x, .int .i64 y]] W fun e w' => e = .returned (.int .i64 E) ∧ Kd w0 w' cb M' B := by
  subst hb hM
  refine (push_any h.1 hl x y).mono ?_
  rintro e w' ⟨rfl, hc, hk⟩
  exact ⟨rfl, h.did hc hk⟩
theorem Kd.pop (h : Kd w0 W cb M B) (hl : M.L.length ≤ 8) {E : Int} {V : Int × Int} (hb : popE M = E) (hv : popV M = V) (hM : popM M = M') : Calls Try.prog 19 #[.pointer (some ⟨cb, 0, none⟩)] W fun e w' => e = .returned (.tuple #[.agg #[.int .i64 V.1, .int .i64 V.2], .int .i64 E]) ∧ Kd w0 w' cb M' B := by
  subst hb hv hM
  refine (pop_any h.1 hl).mono ?_
  rintro e w' ⟨rfl, hc, hk⟩
  exact ⟨rfl, h.did hc hk⟩
theorem Kd.acts (h : Kd w0 W cb M B) (p : Bool) {b : Bool} (hb : actsV M p = b) : Calls Try.prog 21 #[.pointer (some ⟨cb, 0, none⟩), .bool p] W fun e w' => e = .returned (.bool b) ∧ Kd w0 w' cb M B := by
  subst hb
  refine (acts_any h.1.cv p).mono ?_
  rintro e w' ⟨rfl, hk⟩
  exact ⟨rfl, h.go hk⟩
end
end Go.Proofs.Ytjggpchjfglgcaa
