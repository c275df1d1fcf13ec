/- Signals that a law has made itself, with boxes beside; num. -/
import Derived.Test.YtoenipaccnpihaaNe
import Derived.Test.YtoenipaccnpihaaSq
import Derived.Test.YtoenipaccnpihaaSm
import Derived.Test.YtoenipaccnpihaaRcl
namespace Go.Proofs.Ytoenipaccnpihaa
open Go.RowKit Go.Shelf Go.Sort Go.Maps
open Go.Lib hiding intOf
attribute [local go_sem] Oper.semAt_some

set_option maxRecDepth 100000 in
theorem num_any (w : World) (e : Int) : Calls Try.prog 9 #[.int .i64 e] w fun e' w' => e' = .returned (.int .i64 e) ∧ w' = w := by
  go_enter Try.func9, Try.ntmps9
  go_wp2
  go_ret
  exact ⟨rfl, rfl⟩
/-- Boxes: where, what they hold, of which type. -/
abbrev Bx := List (Nat × Array Value × Nat)
/-- Signals that were made here; boxes that are none of theirs. -/
def Kw (w0 W : World) (sb T S : Nat) (M : Nat → Nat) (L : El) (B : Bx) : Prop := ∃ R, Sg W sb R T S M L ∧ (∀ k ∈ R, w0.heap.size ≤ k) ∧ Kp w0 W [] ∧ ∀ x ∈ B, W.heap[x.1]? = some (.cells x.2.1 x.2.2 (0, 0)) ∧ x.1 ∉ R ∧ w0.heap.size ≤ x.1
section
variable {w0 W W' : World} {sb T S : Nat} {M M' : Nat → Nat} {L L' : El} {B : Bx}
theorem Kw.kp (h : Kw w0 W sb T S M L B) : Kp w0 W [] := by
  obtain ⟨R, -, -, hk, -⟩ := h
  exact hk
theorem Kw.box (h : Kw w0 W sb T S M L B) {x : Nat × Array Value × Nat} (hx : x ∈ B) : W.heap[x.1]? = some (.cells x.2.1 x.2.2 (0, 0)) := by
  obtain ⟨R, -, -, -, hb⟩ := h
  exact (hb x hx).1
theorem Kw.ok (h : Kw w0 W sb T S M L B) : Ok T S L := by
  obtain ⟨R, hs, -⟩ := h
  exact hs.ok
theorem Kw.bd (h : Kw w0 W sb T S M L B) : (1 ≤ T ∧ T ≤ 16) ∧ 1 ≤ S ∧ S ≤ 32 := by
  obtain ⟨R, hs, -⟩ := h
  exact hs.bd
theorem Kw.go (h : Kw w0 W sb T S M L B) (hk : Kp W W' []) : Kw w0 W' sb T S M L B := by
  obtain ⟨R, hs, hf, hk0, hb⟩ := h
  exact ⟨R, hs.same hk, hf, hk0.trans hk, fun x hx => ⟨(hk.block x.1 (lt_of_block (hb x hx).1) (by simp)).trans (hb x hx).1, (hb x hx).2⟩⟩
theorem Kw.alloc (h : Kw w0 W sb T S M L B) (c : Array Value) (t : Nat) : Kw w0 (W.alloc (.cells c t)) sb T S M L ((W.heap.size, c, t) :: B) := by
  obtain ⟨R, hs, hf, hk0, hb⟩ := h
  have hk := Kp.alloc W (.cells c t) []
  refine ⟨R, hs.same hk, hf, hk0.trans hk, fun x hx => ?_⟩
  rcases List.mem_cons.1 hx with rfl | hx
  · exact ⟨heap_alloc_new W _, fun hm => by have := hs.lt _ hm; simp at this, hk0.size⟩
  · exact ⟨(hk.block x.1 (lt_of_block (hb x hx).1) (by simp)).trans (hb x hx).1, (hb x hx).2⟩
theorem Kw.to (h : Kw w0 W sb T S M L B) (ht : ∀ R, Sg W sb R T S M L → To W W' sb R T S M' L') : Kw w0 W' sb T S M' L' B := by
  obtain ⟨R, hs, hf, hk, hb⟩ := h
  obtain ⟨R', hs', hn, hk'⟩ := ht R hs
  have hz := hk.size
  refine ⟨R', hs', fun k hm => ?_, hk.past hk' (fun k hm hl => by have := hf k hm; omega), fun x hx => ⟨(hk'.block x.1 (lt_of_block (hb x hx).1) (hb x hx).2.1).trans (hb x hx).1, fun hm => ?_, (hb x hx).2.2⟩⟩
  · rcases hn k hm with q | q
    · exact hf k q
    · omega
  · rcases hn _ hm with q | q
    · exact (hb x hx).2.1 q
    · have := lt_of_block (hb x hx).1
      omega
end
/-- A call whose answer hangs on no block. -/
theorem Kw.call {w0 W : World} {sb T S : Nat} {M M' : Nat → Nat} {L L' : El} {B : Bx} {f : Nat} {args : Array Value} {v : Value} (h : Kw w0 W sb T S M L B) (hc : ∀ R, Sg W sb R T S M L → Calls Try.prog f args W fun e w' => e = .returned v ∧ To W w' sb R T S M' L') : Calls Try.prog f args W fun e w' => e = .returned v ∧ Kw w0 w' sb T S M' L' B := by
  obtain ⟨R, hs, hf, hk, hb⟩ := h
  refine (hc R hs).mono ?_
  rintro e w' ⟨rfl, R', hs', hn, hk'⟩
  refine ⟨rfl, ?_⟩
  have hz := hk.size
  refine ⟨R', hs', fun k hm => ?_, hk.past hk' (fun k hm hl => by have := hf k hm; omega), fun x hx => ⟨(hk'.block x.1 (lt_of_block (hb x hx).1) (hb x hx).2.1).trans (hb x hx).1, fun hm => ?_, (hb x hx).2.2⟩⟩
  · rcases hn k hm with q | q
    · exact hf k q
    · omega
  · rcases hn _ hm with q | q
    · exact (hb x hx).2.1 q
    · have := lt_of_block (hb x hx).1
      omega
theorem Kw.look {w0 W : World} {sb T S : Nat} {M : Nat → Nat} {L : El} {B : Bx} {f : Nat} {args : Array Value} {v : Value} (h : Kw w0 W sb T S M L B) (hc : ∀ R, Sg W sb R T S M L → Calls Try.prog f args W fun e w' => e = .returned v ∧ Kp W w' []) : Calls Try.prog f args W fun e w' => e = .returned v ∧ Kw w0 w' sb T S M L B := by
  obtain ⟨R, hs, hr⟩ := id h
  refine (hc R hs).mono ?_
  rintro e w' ⟨rfl, hk⟩
  exact ⟨rfl, h.go hk⟩
theorem kp_same {f : Nat} {args : Array Value} {w : World} {v : Value} (h : Calls Try.prog f args w fun e w' => e = .returned v ∧ w' = w) : Calls Try.prog f args w fun e w' => e = .returned v ∧ Kp w w' [] := h.mono fun _ _ ⟨a, b⟩ => ⟨a, by rw [b]; exact Kp.refl _ _⟩
section
variable {w0 W : World} {sb T S : Nat} {M : Nat → Nat} {L : El} {B : Bx}
theorem Kw.send (h : Kw w0 W sb T S M L B) (t n v : Int) {E : Int} {L' : El} (hE : sendE T S L t n = E) (hL : sendL T S L t n v = L') : Calls Try.prog 15 #[.pointer (some ⟨sb, 0, none⟩), .int .i64 t, .int .i64 n, .int .i64 v] W fun e w' => e = .returned (.int .i64 E) ∧ Kw w0 w' sb T S M L' B := by
  subst hE hL
  exact h.call fun R hs => send_any W sb R T S M L t n v hs
theorem Kw.next (h : Kw w0 W sb T S M L B) (t : Int) (Z : Nat) (hZ : Z < 4294967296) {V : Value} {b : Bool} {L' : El} (hV : nxV T L t Z = V) (hb : nxB T L t Z = b) (hL : nxL T L t Z = L') : Calls Try.prog 16 #[.pointer (some ⟨sb, 0, none⟩), .int .i64 t, .int .u32 Z] W fun e w' => e = .returned (.tuple #[V, .bool b]) ∧ Kw w0 w' sb T S M L' B := by
  subst hV hb hL
  exact h.call fun R hs => next_any W sb R T S M L t Z hZ hs
theorem Kw.peek (h : Kw w0 W sb T S M L B) (t : Int) (Z : Nat) (hZ : Z < 4294967296) {V : Value} {b : Bool} (hV : nxV T L t Z = V) (hb : nxB T L t Z = b) : Calls Try.prog 23 #[.pointer (some ⟨sb, 0, none⟩), .int .i64 t, .int .u32 Z] W fun e w' => e = .returned (.tuple #[V, .bool b]) ∧ Kw w0 w' sb T S M L B := by
  subst hV hb
  exact h.look fun R hs => peek_any W sb R T S M L t Z hZ hs
theorem Kw.used (h : Kw w0 W sb T S M L B) {u : Nat} (hu : used L = u) : Calls Try.prog 17 #[.pointer (some ⟨sb, 0, none⟩)] W fun e w' => e = .returned (.int .i64 (u : Nat)) ∧ Kw w0 w' sb T S M L B := by
  subst hu
  exact h.look fun R hs => used_any W sb R T S M L hs
theorem Kw.pending (h : Kw w0 W sb T S M L B) (t : Int) {u : Nat} (hu : pendingV T L t = u) : Calls Try.prog 18 #[.pointer (some ⟨sb, 0, none⟩), .int .i64 t] W fun e w' => e = .returned (.int .u32 (u : Nat)) ∧ Kw w0 w' sb T S M L B := by
  subst hu
  exact h.look fun R hs => kp_same (pending_any W sb R T S M L t hs)
theorem Kw.mask (h : Kw w0 W sb T S M L B) (t : Int) {u : Nat} (hu : maskV T M t = u) : Calls Try.prog 24 #[.pointer (some ⟨sb, 0, none⟩), .int .i64 t] W fun e w' => e = .returned (.int .u32 (u : Nat)) ∧ Kw w0 w' sb T S M L B := by
  subst hu
  exact h.look fun R hs => kp_same (mask_any W sb R T S M L t hs)
theorem Kw.opn (h : Kw w0 W sb T S M L B) (t : Int) {u : Nat} (hu : noB (pendingV T L t) (maskV T M t) = u) : Calls Try.prog 22 #[.pointer (some ⟨sb, 0, none⟩), .int .i64 t] W fun e w' => e = .returned (.int .u32 (u : Nat)) ∧ Kw w0 w' sb T S M L B := by
  subst hu
  exact h.look fun R hs => kp_same (open_any W sb R T S M L t hs)
theorem Kw.setmask (h : Kw w0 W sb T S M L B) (t x : Nat) (ht : t < T) (hx : x < 4294967296) {u : Nat} {M' : Nat → Nat} (hu : M t = u) (hM : upd M t (noB x 1) = M') : Calls Try.prog 19 #[.pointer (some ⟨sb, 0, none⟩), .int .i64 t, .int .u32 x] W fun e w' => e = .returned (.tuple #[.int .u32 (u : Nat), .int .i64 0]) ∧ Kw w0 w' sb T S M' L B := by
  subst hu hM
  exact h.call fun R hs => setmask_yes W sb R T S M L t x hs ht hx
end
theorem kw_new (w0 W : World) (T S : Nat) (h1 : 1 ≤ T) (h2 : T ≤ 16) (h3 : 1 ≤ S) (h4 : S ≤ 32) (hk : Kp w0 W []) : Calls Try.prog 7 #[.int .i64 T, .int .i64 S] W fun e w' => ∃ sb, e = .returned (.tuple #[.pointer (some ⟨sb, 0, none⟩), .int .i64 0]) ∧ Kw w0 w' sb T S (fun _ => 0) [] [] := by
  refine (new_yes W T S h1 h2 h3 h4).mono ?_
  rintro e w' ⟨sb, R, rfl, hs, hf, hk2⟩
  have := hk.size
  exact ⟨sb, rfl, R, hs, fun k hm => Nat.le_trans this (hf k hm), hk.trans hk2, by simp⟩
/-- What Clear promises. -/
def ClearOk : Prop := ∀ (w : World) (sb : Nat) (R : List Nat) (T S : Nat) (M : Nat → Nat) (L : El) (t : Int), Sg w sb R T S M L → Calls Try.prog 20 #[.pointer (some ⟨sb, 0, none⟩), .int .i64 t] w fun e w' => e = .returned (.tuple #[.int .i64 (clN T L t), .int .i64 (clE T t)]) ∧ To w w' sb R T S (clM T M t) (leftV T L t)
theorem Kw.clear {w0 W : World} {sb T S : Nat} {M : Nat → Nat} {L : El} {B : Bx} (P : ClearOk) (h : Kw w0 W sb T S M L B) (t : Int) {N E : Int} {M' : Nat → Nat} {L' : El} (hN : clN T L t = N) (hE : clE T t = E) (hM : clM T M t = M') (hL : leftV T L t = L') : Calls Try.prog 20 #[.pointer (some ⟨sb, 0, none⟩), .int .i64 t] W fun e w' => e = .returned (.tuple #[.int .i64 N, .int .i64 E]) ∧ Kw w0 w' sb T S M' L' B := by
  subst hN hE hM hL
  exact h.call fun R hs => P W sb R T S M L t hs
theorem eql47 (a b c d : Int) (W : World) : (binOp .eql 47 (.agg #[.int .i64 a, .int .i64 b]) (.agg #[.int .i64 c, .int .i64 d])).run Try.prog W = .ok (.bool (a == c && b == d)) W := by
  have hS : Try.prog.underlying 47 = some (.struct (Try.prog.fieldsOf 47)) := by kernel_rfl
  have hp : Try.prog.stoodInHeld 47 = false := by kernel_rfl
  rw [run_eql_struct, show (10000 : Nat) = 9999 + 1 from rfl, run_equalIn_agg W 9999 47 _ _ hS hp]
  simp only [Program.fieldsOf, Try.underlying47]
  go_simp
  by_cases h1 : a = c <;> by_cases h2 : b = d <;> simp [h1, h2]
end Go.Proofs.Ytoenipaccnpihaa
