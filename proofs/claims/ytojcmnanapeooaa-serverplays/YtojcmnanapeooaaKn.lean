/- A server that a call makes itself. -/
import Derived.Test.YtojcmnanapeooaaPcs
namespace Go.Proofs.Ytojcmnanapeooaa
open Go.RowKit Go.Shelf

/-- A server made since w0, which is kept. -/
structure Kn (w0 w : World) (sb : Nat) (s : Sv) : Prop where
  ex : ∃ v, Sr w sb v s ∧ ∀ k ∈ rws sb v, w0.heap.size ≤ k
  kp : Kp w0 w []
section
variable {w0 w w' : World} {sb : Nat} {s s' : Sv}
theorem Kn.ok (h : Kn w0 w sb s) : Ok s := by
  obtain ⟨v, a, -⟩ := h.ex
  exact a.ok
theorem Kn.same (h : Kn w0 w sb s) (hk : Kp w w' []) : Kn w0 w' sb s := by
  obtain ⟨v, a, b⟩ := h.ex
  exact ⟨⟨v, a.same hk, b⟩, h.kp.trans hk⟩
theorem Kn.wt (h : Kn w0 w sb s) {v : Value} (hv : Sr w sb v s ∧ ∀ k ∈ rws sb v, w0.heap.size ≤ k) (h1 : Wt w w' sb v s') : Kn w0 w' sb s' := by
  obtain ⟨v1, a1, b1⟩ := h1.ex
  have hz := h.kp.size
  refine ⟨⟨v1, a1, fun k hk => ?_⟩, h.kp.past h1.kp fun k hk hl => ?_⟩
  · rcases mem_rws.1 hk with q | q
    · exact hv.2 k (mem_rws.2 (.inl q))
    · rcases b1 k q with r | r
      · exact hv.2 k (mem_rws.2 (.inr r))
      · omega
  · have := hv.2 k hk
    omega
theorem Kn.start (h : Kn w0 w sb s) (now : Int) : Calls Try.prog 14 #[.pointer (some ⟨sb, 0, none⟩), .int .i64 now] w fun e w' => e = .returned (.int .i64 (startE s now)) ∧ Kn w0 w' sb (startS s now) := by
  obtain ⟨v, hv⟩ := h.ex
  exact (start_any w sb v s now hv.1).mono fun e w' ⟨a, b⟩ => ⟨a, h.wt hv b⟩
theorem Kn.use (h : Kn w0 w sb s) : Calls Try.prog 15 #[.pointer (some ⟨sb, 0, none⟩)] w fun e w' => e = .returned (.tuple #[.bool (useB s), .int .i64 (useE s)]) ∧ Kn w0 w' sb (useS s) := by
  obtain ⟨v, hv⟩ := h.ex
  exact (use_any w sb v s hv.1).mono fun e w' ⟨a, b⟩ => ⟨a, h.wt hv b⟩
theorem Kn.stop (h : Kn w0 w sb s) (now : Int) : Calls Try.prog 16 #[.pointer (some ⟨sb, 0, none⟩), .int .i64 now] w fun e w' => e = .returned (.int .i64 (stopE s now)) ∧ Kn w0 w' sb (stopS s now) := by
  obtain ⟨v, hv⟩ := h.ex
  exact (stop_any w sb v s now hv.1).mono fun e w' ⟨a, b⟩ => ⟨a, h.wt hv b⟩
theorem Kn.due (h : Kn w0 w sb s) (now : Int) : Calls Try.prog 17 #[.pointer (some ⟨sb, 0, none⟩), .int .i64 now] w fun e w' => e = .returned (.int .i64 (dueN s now)) ∧ Kn w0 w' sb (dueS s now) := by
  obtain ⟨v, hv⟩ := h.ex
  exact (due_any w sb v s now hv.1).mono fun e w' ⟨a, b⟩ => ⟨a, h.wt hv b⟩
theorem Kn.active (h : Kn w0 w sb s) : Calls Try.prog 18 #[.pointer (some ⟨sb, 0, none⟩)] w fun e w' => e = .returned (.tuple #[.int .i64 s.since, .int .i64 s.used, .bool s.act]) ∧ Kn w0 w' sb s ∧ Kp w w' [] := by
  obtain ⟨v, hv⟩ := h.ex
  exact (active_any w sb v s hv.1).mono fun e w' ⟨a, k, b⟩ => by subst b; exact ⟨a, h.same (Kp.drewN _ _ _), Kp.drewN _ _ _⟩
theorem Kn.left (h : Kn w0 w sb s) : Calls Try.prog 19 #[.pointer (some ⟨sb, 0, none⟩)] w fun e w' => e = .returned (.int .i64 s.left) ∧ w' = w := by
  obtain ⟨v, hv⟩ := h.ex
  exact left_any w sb v s hv.1
theorem Kn.high (h : Kn w0 w sb s) : Calls Try.prog 21 #[.pointer (some ⟨sb, 0, none⟩)] w fun e w' => e = .returned (.bool (highB s)) ∧ Kn w0 w' sb s ∧ Kp w w' [] := by
  obtain ⟨v, hv⟩ := h.ex
  exact (high_any w sb v s hv.1).mono fun e w' ⟨a, k, b⟩ => by subst b; exact ⟨a, h.same (Kp.drewN _ _ _), Kp.drewN _ _ _⟩
theorem Kn.pieces (h : Kn w0 w sb s) : Calls Try.prog 20 #[.pointer (some ⟨sb, 0, none⟩)] w fun e w' => ∃ v', e = .returned v' ∧ Dr w' w.heap.size v' s.pcs ∧ Kn w0 w' sb s ∧ Kp w w' [] := by
  obtain ⟨v, hv⟩ := h.ex
  exact (pieces_any w sb v s hv.1).mono fun e w' ⟨v', a, b, c⟩ => ⟨v', a, b, h.same c, c⟩
end
theorem kn_new (w : World) (b p m : Int) (h : mayN b p m = true) : Calls Try.prog 9 #[.int .i64 b, .int .i64 p, .int .i64 m] w fun e w' => e = .returned (.tuple #[.pointer (some ⟨w.heap.size, 0, none⟩), .int .i64 0]) ∧ Kn w w' w.heap.size (newS b p m) :=
  (new_ok w b p m h).mono fun e w' ⟨a, b, c⟩ => ⟨a, ⟨⟨_, b, by simp [Value.ownBlock]⟩, c⟩⟩
/-- Two pieces, in a new row. -/
theorem Dr.two (W : World) (x1 x2 y1 y2 : Int) : Dr (W.alloc (.cells #[.int .i64 x1, .int .i64 x2, .int .i64 y1, .int .i64 y2] 45)) W.heap.size (.slice (some ⟨W.heap.size, 0, none⟩) 2 2) [(x1, x2), (y1, y2)] :=
  ⟨rfl, .inr ⟨W.heap.size, 2, _, rfl, Nat.le_refl _, heap_alloc_new W _, Nat.le_refl _, by unfold maxLen; omega, rfl, rfl⟩⟩
def ks1 : Sv := startS (newS 3 10 2) 5
def ks2 : Sv := useS ks1
def ks3 : Sv := useS ks2
def ks4 : Sv := stopS ks3 9
def ks5 : Sv := startS ks4 11
def ks6 : Sv := useS ks5
def ks7 : Sv := dueS ks6 14
def ks8 : Sv := dueS ks7 15
def ks9 : Sv := dueS ks8 30
theorem kf1 : startE (newS 3 10 2) 5 = 0 := by decide
theorem kf2 : useB ks1 = false ∧ useE ks1 = 0 := by decide
theorem kf3 : useB ks2 = false ∧ useE ks2 = 0 := by decide
theorem kf4 : stopE ks3 9 = 0 := by decide
theorem kf4p : ks4.pcs = [(15, 2)] ∧ ks4.left = 1 := by decide
theorem kf5 : startE ks4 11 = 0 := by decide
theorem kf6 : useB ks5 = true ∧ useE ks5 = 0 := by decide
theorem kf6p : highB ks6 = false ∧ ks6.pcs = [(15, 2), (21, 1)] := by decide
theorem kf7 : dueN ks6 14 = 0 := by decide
theorem kf8 : dueN ks7 15 = 2 ∧ highB ks8 = true := by decide
theorem kf9 : dueN ks8 30 = 1 ∧ ks9.left = 3 ∧ useB ks9 = false ∧ useE ks9 = 7 := by decide
end Go.Proofs.Ytojcmnanapeooaa
