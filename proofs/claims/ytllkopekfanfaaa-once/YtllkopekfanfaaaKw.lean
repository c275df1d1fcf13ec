/- Queues that a law has made itself, with boxes beside. -/
import Derived.Test.YtllkopekfanfaaaDo0J
namespace Go.Proofs.Ytllkopekfanfaaa
open Go.RowKit Go.Shelf Go.Lib Go.Sort Go.Maps
attribute [local go_sem] Oper.semAt_some

/-- Boxes: where, what they hold, of which type. -/
abbrev Bx := List (Nat × Array Value × Nat)
/-- A queue that was made here; boxes that are none of its. -/
def Kq (w0 W : World) (qb : Nat) (M : Qs) (B : Bx) : Prop := ∃ R, Qc W qb R M ∧ (∀ k ∈ R, w0.heap.size ≤ k) ∧ Kp w0 W [] ∧ ∀ x ∈ B, W.heap[x.1]? = some (.cells x.2.1 x.2.2 (0, 0)) ∧ x.1 ∉ R ∧ w0.heap.size ≤ x.1
section
variable {w0 W W' : World} {qb : Nat} {M M' : Qs} {B : Bx}
theorem Kq.kp (h : Kq w0 W qb M B) : Kp w0 W [] := by
  obtain ⟨R, -, -, hk, -⟩ := h
  exact hk
theorem Kq.box (h : Kq w0 W qb M B) {x : Nat × Array Value × Nat} (hx : x ∈ B) : W.heap[x.1]? = some (.cells x.2.1 x.2.2 (0, 0)) := by
  obtain ⟨R, -, -, -, hb⟩ := h
  exact (hb x hx).1
theorem Kq.go (h : Kq w0 W qb M B) (hk : Kp W W' []) : Kq w0 W' qb M B := by
  obtain ⟨R, hs, hf, hk0, hb⟩ := h
  exact ⟨R, hs.same hk, hf, hk0.trans hk, fun x hx => ⟨(hk.block x.1 (lt_of_block (hb x hx).1) (by simp)).trans (hb x hx).1, (hb x hx).2⟩⟩
theorem Kq.alloc (h : Kq w0 W qb M B) (c : Array Value) (t : Nat) : Kq w0 (W.alloc (.cells c t)) qb M ((W.heap.size, c, t) :: B) := by
  obtain ⟨R, hs, hf, hk0, hb⟩ := h
  have hk := Kp.alloc W (.cells c t) []
  refine ⟨R, hs.same hk, hf, hk0.trans hk, fun x hx => ?_⟩
  rcases List.mem_cons.1 hx with rfl | hx
  · exact ⟨heap_alloc_new W _, fun hm => by have := hs.lt _ hm; simp at this, hk0.size⟩
  · exact ⟨(hk.block x.1 (lt_of_block (hb x hx).1) (by simp)).trans (hb x hx).1, (hb x hx).2⟩
/-- A call whose answer hangs on no block. -/
theorem Kq.call {f : Nat} {args : Array Value} {v : Value} (h : Kq w0 W qb M B) (hc : ∀ R, Qc W qb R M → Calls Try.prog f args W fun e w' => e = .returned v ∧ To W w' qb R M') : Calls Try.prog f args W fun e w' => e = .returned v ∧ Kq w0 w' qb M' B := by
  obtain ⟨R, hs, hf, hk, hb⟩ := h
  refine (hc R hs).mono ?_
  rintro e w' ⟨rfl, R', hs', hn, hk'⟩
  refine ⟨rfl, ?_⟩
  have hz := hk.size
  refine ⟨R', hs', fun k hm => ?_, hk.past hk' (fun k hm hl => by have := hf k hm; omega), fun x hx => ⟨(hk'.block x.1 (lt_of_block (hb x hx).1) (hb x hx).2.1).trans (hb x hx).1, fun hm => ?_, (hb x hx).2.2⟩⟩
  · rcases hn k hm with q | q
    · exact hf k q
    · omega
  · rcases hn _ hm with q | q
    · exact (hb x hx).2.1 q
    · have := lt_of_block (hb x hx).1
      omega
theorem Kq.look {f : Nat} {args : Array Value} {v : Value} (h : Kq w0 W qb M B) (hc : ∀ R, Qc W qb R M → Calls Try.prog f args W fun e w' => e = .returned v ∧ Kp W w' []) : Calls Try.prog f args W fun e w' => e = .returned v ∧ Kq w0 w' qb M B := by
  obtain ⟨R, hs, hr⟩ := id h
  refine (hc R hs).mono ?_
  rintro e w' ⟨rfl, hk⟩
  exact ⟨rfl, h.go hk⟩
theorem Kq.send (h : Kq w0 W qb M B) (t p x y : Int) {E : Int} {V : Value} (hi : i64 t) (hE : sendE M t p (x, y) = E) (hV : sendVV M t p (x, y) = V ∧ sendMM M t p (x, y) = M') : Calls Try.prog 15 #[.pointer (some ⟨qb, 0, none⟩), .int .i64 t, .int .i64 p, .agg #[.int .i64 x, .int .i64 y]] W fun e w' => e = .returned (.tuple #[V, .int .i64 E]) ∧ Kq w0 w' qb M' B := by
  obtain ⟨rfl, rfl⟩ := hV
  subst hE
  exact h.call fun R hs => send_yes hs t p (x, y) hi
theorem Kq.recv (h : Kq w0 W qb M B) (t p : Int) {E : Int} {V : Value} (hi : i64 t) (hE : recE M t p = E) (hV : recVV M t p = V ∧ recMM M t p = M') : Calls Try.prog 17 #[.pointer (some ⟨qb, 0, none⟩), .int .i64 t, .int .i64 p] W fun e w' => e = .returned (.tuple #[V, .int .i64 E]) ∧ Kq w0 w' qb M' B := by
  obtain ⟨rfl, rfl⟩ := hV
  subst hE
  exact h.call fun R hs => rec_yes hs t p hi
theorem Kq.leave (h : Kq w0 W qb M B) (t : Int) {E : Int} (hi : i64 t) (hE : leE M t = E) (hV : leM M t = M') : Calls Try.prog 18 #[.pointer (some ⟨qb, 0, none⟩), .int .i64 t] W fun e w' => e = .returned (.int .i64 E) ∧ Kq w0 w' qb M' B := by
  subst hV hE
  exact h.call fun R hs => leave_yes hs t hi
theorem Kq.change (h : Kq w0 W qb M B) (t p : Int) {E : Int} (hi : i64 t) (hE : chE M t p = E) (hV : chM M t p = M') : Calls Try.prog 19 #[.pointer (some ⟨qb, 0, none⟩), .int .i64 t, .int .i64 p] W fun e w' => e = .returned (.int .i64 E) ∧ Kq w0 w' qb M' B := by
  subst hV hE
  exact h.call fun R hs => change_yes hs t p hi
theorem Kq.len (h : Kq w0 W qb M B) {n : Int} (hn : (M.L.length : Int) = n) : Calls Try.prog 20 #[.pointer (some ⟨qb, 0, none⟩)] W fun e w' => e = .returned (.int .i64 n) ∧ Kq w0 w' qb M B := by
  subst hn
  exact h.look fun R hs => qlen_yes hs
theorem Kq.room (h : Kq w0 W qb M B) {n : Int} (hn : M.n - M.L.length = n) : Calls Try.prog 28 #[.pointer (some ⟨qb, 0, none⟩)] W fun e w' => e = .returned (.int .i64 n) ∧ Kq w0 w' qb M B := by
  subst hn
  exact h.look fun R hs => room_yes hs
theorem Kq.full (h : Kq w0 W qb M B) {b : Bool} (hn : M.full = b) : Calls Try.prog 25 #[.pointer (some ⟨qb, 0, none⟩)] W fun e w' => e = .returned (.bool b) ∧ Kq w0 w' qb M B := by
  subst hn
  exact h.look fun R hs => full_yes hs
theorem Kq.lenK (h : Kq w0 W qb M B) {n : Int} (hn : (M.L.length : Int) = n) : Calls Try.prog 20 #[.pointer (some ⟨qb, 0, none⟩)] W fun e w' => e = .returned (.int .i64 n) ∧ Kp W w' [] := by
  subst hn
  obtain ⟨R, hs, -⟩ := h
  exact qlen_yes hs
theorem Kq.roomK (h : Kq w0 W qb M B) {n : Int} (hn : M.n - M.L.length = n) : Calls Try.prog 28 #[.pointer (some ⟨qb, 0, none⟩)] W fun e w' => e = .returned (.int .i64 n) ∧ Kp W w' [] := by
  subst hn
  obtain ⟨R, hs, -⟩ := h
  exact room_yes hs
/-- With itself. -/
theorem Kq.self (h : Kq w0 W qb M B) : Calls Try.prog 13 #[.pointer (some ⟨qb, 0, none⟩), .pointer (some ⟨qb, 0, none⟩)] W fun e w' => e = .returned (.bool true) ∧ Kq w0 w' qb M B := by
  refine h.look fun R hs => ?_
  refine (qsame W qb qb R R M M hs hs).mono ?_
  rintro e w' ⟨rfl, hk⟩
  exact ⟨by rw [sameQ_refl], hk⟩
end
theorem kq_new (w0 W : World) (n : Int) (h1 : 1 ≤ n) (h2 : n ≤ 32) (hk : Kp w0 W []) : Calls Try.prog 7 #[.int .i64 n] W fun e w' => ∃ qb, e = .returned (.tuple #[.pointer (some ⟨qb, 0, none⟩), .int .i64 0]) ∧ Kq w0 w' qb (newQ n) [] := by
  refine (new_ok W n h1 h2).mono ?_
  rintro e w' ⟨⟨qb, R, rfl, hs, hf⟩, hk2⟩
  have := hk.size
  exact ⟨qb, rfl, R, hs, fun k hm => Nat.le_trans this (hf k hm), hk.trans hk2, by simp⟩
/-! Answers and what is left, plainly -/
section
variable {M : Qs} {t p : Int} {m : Int × Int}
theorem st_send1 {t1 p1 : Int} {Z : List Dl} (hE : sendE M t p m = 0) (h : ordK M.r 31 = (t1, p1) :: Z) : sendVV M t p m = passed true m t1 ∧ sendMM M t p m = { M with r := delP M.r t1 } := by
  obtain ⟨h1, h2, h3⟩ := take_eq M.r _ (delP M.r t1) h t1 rfl rfl rfl
  unfold sendVV sendMM sendV sendM
  simp [hE, h1, h2, h3]
theorem st_send2 (hE : sendE M t p m = 0) (h : M.r = []) (hf : M.full = true) : sendVV M t p m = passed false m (-1) ∧ sendMM M t p m = { M with s := putL M.s t p, f := setF M.f t (some m) } := by
  unfold sendVV sendMM sendV sendM
  simp [hE, h, fst_nilB, hf]
theorem st_send3 (hE : sendE M t p m = 0) (h : M.r = []) (hf : M.full = false) : sendVV M t p m = passed true m (-1) ∧ sendMM M t p m = { M with L := putM M.L m } := by
  unfold sendVV sendMM sendV sendM
  simp [hE, h, fst_nilB, hf]
theorem st_sendx (hE : sendE M t p m ≠ 0) : sendVV M t p m = passed false (0, 0) 0 ∧ sendMM M t p m = M := by
  unfold sendVV sendMM
  simp [hE]
theorem st_rec1 (hE : recE M t p = 0) (hL : M.L = []) : recVV M t p = passed false (0, 0) (-1) ∧ recMM M t p = { M with r := putL M.r t p } := by
  unfold recVV recMM recV recM
  simp [hE, hL, zeroMsg]
theorem st_rec2 {x : Int × Int} {Z : Ml} (hE : recE M t p = 0) (hL : M.L = x :: Z) (hs : M.s = []) : recVV M t p = passed true x (-1) ∧ recMM M t p = { M with L := Z } := by
  unfold recVV recMM recV recM letT letM
  simp [hE, hL, hs, fst_nilB]
theorem st_rec3 {x : Int × Int} {Z : Ml} {t1 p1 : Int} {Y : List Dl} (hE : recE M t p = 0) (hL : M.L = x :: Z) (h : ordK M.s 31 = (t1, p1) :: Y) (hf : M.f t1 = some m) : recVV M t p = passed true x t1 ∧ recMM M t p = { M with L := putM Z m, s := delP M.s t1, f := setF M.f t1 none } := by
  obtain ⟨h1, h2, h3⟩ := take_eq M.s _ (delP M.s t1) h t1 rfl rfl rfl
  unfold recVV recMM recV recM letT letM
  simp [hE, hL, h1, h2, h3, hf]
theorem st_recx (hE : recE M t p ≠ 0) : recVV M t p = passed false (0, 0) 0 ∧ recMM M t p = M := by
  unfold recVV recMM
  simp [hE]
end
end Go.Proofs.Ytllkopekfanfaaa
