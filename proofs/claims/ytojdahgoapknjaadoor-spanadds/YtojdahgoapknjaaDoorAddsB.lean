/- SpanAdds: the box of three. -/
import Derived.Test.YtojdahgoapknjaaDoorKnownOk
namespace Go.Proofs.YtojdahgoapknjaaDoor
open Go.RowKit Go.Shelf
set_option linter.unusedVariables false

/-- Three spans, and their box. -/
abbrev l6 (a b c d e f : Int) : Value := .agg #[.int .i64 a, .int .i64 b, .int .i64 c, .int .i64 d, .int .i64 e, .int .i64 f]
abbrev o6 (a b c d e f : Int) : Obj := .cells #[.int .i64 a, .int .i64 b, .int .i64 c, .int .i64 d, .int .i64 e, .int .i64 f] 49
def B6 (w : World) (p : Nat) (a b c d e f : Int) : Prop := w.heap[p]? = some (.cells #[.int .i64 a, .int .i64 b, .int .i64 c, .int .i64 d, .int .i64 e, .int .i64 f] 49 (0, 0))
section
variable {w w' : World} {p : Nat} {a b c d e f : Int}
theorem B6.keep (h : B6 w p a b c d e f) (k : Kp w w' []) : B6 w' p a b c d e f := (k.block p (lt_of_block h) (by simp)).trans h
theorem B6.c0 (h : B6 w p a b c d e f) : w.cell? ⟨p, 0, none⟩ = some (.int .i64 a) := by have := h; unfold B6 at this; simp [World.cell?, this]
theorem B6.c1 (h : B6 w p a b c d e f) : w.cell? ⟨p, 1, none⟩ = some (.int .i64 b) := by have := h; unfold B6 at this; simp [World.cell?, this]
theorem B6.c2 (h : B6 w p a b c d e f) : w.cell? ⟨p, 2, none⟩ = some (.int .i64 c) := by have := h; unfold B6 at this; simp [World.cell?, this]
theorem B6.c3 (h : B6 w p a b c d e f) : w.cell? ⟨p, 3, none⟩ = some (.int .i64 d) := by have := h; unfold B6 at this; simp [World.cell?, this]
theorem B6.c4 (h : B6 w p a b c d e f) : w.cell? ⟨p, 4, none⟩ = some (.int .i64 e) := by have := h; unfold B6 at this; simp [World.cell?, this]
theorem B6.c5 (h : B6 w p a b c d e f) : w.cell? ⟨p, 5, none⟩ = some (.int .i64 f) := by have := h; unfold B6 at this; simp [World.cell?, this]
end
theorem b6_new (w : World) (a b c d e f : Int) : B6 (w.alloc (o6 a b c d e f)) w.heap.size a b c d e f := heap_new w _

end Go.Proofs.YtojdahgoapknjaaDoor
