/- A cancellation and the reference's, side by side. -/
import Derived.Test.YtjggpchjfglgcaaRo
import Derived.Test.YtjggpchjfglgcaaPo
namespace Go.Proofs.Ytjggpchjfglgcaa
open Go.RowKit Go.Shelf Go.Lib
attribute [local go_sem] Oper.semAt_some

/-- Both, by their blocks. -/
structure Pa (w : World) (cb rb : Nat) (M : Cn) : Prop where
  c : Cc w cb M
  r : Rq w rb M
  l : M.L.length ≤ 8
variable {w w' : World} {cb rb : Nat} {M : Cn}
theorem Cw.hp {n : Nat} (h : Cw w cb M n) : w.heap[cb]? = some (.cells (vcl (canN M n) 22 0).toArray 59 (0, 0)) := h
theorem Cc.not30 (h : Cc w cb M) (c : Array Value) : w.heap[cb]? ≠ some (.cells c 30 (0, 0)) := by
  rw [Cw.hp h]
  simp
theorem Cc.ne (h : Cc w cb M) {U : Cn} (hr : Rq w rb U) : cb ≠ rb := by
  rintro rfl
  obtain ⟨V, hr⟩ := hr
  have := hr.hh
  rw [Cw.hp h] at this
  simp at this
theorem Pa.ne (h : Pa w cb rb M) : cb ≠ rb := h.c.ne h.r
theorem Pa.same (h : Pa w cb rb M) (hk : Kp w w' []) : Pa w' cb rb M := ⟨h.c.same hk, h.r.same hk, h.l⟩
/-- The reference, when the program has gone on. -/
theorem Rq.mid {U : Cn} (h : Rq w rb U) (hc : Cc w cb M) (hk : Kp w w' [cb]) : Rq w' rb U := h.keep hk (fun k hm => by
  simp only [List.mem_singleton] at hm
  subst hm
  exact ⟨hc.ne h, hc.not30⟩)
/-- What a step leaves. -/
def Did (w w' : World) (cb rb : Nat) (M : Cn) (e : Ending) : Prop := ∃ cb', e = .returned (.tuple #[.pointer (some ⟨cb', 0, none⟩), .pointer (some ⟨rb, 0, none⟩), .bool true]) ∧ Pa w' cb' rb M ∧ (cb' = cb ∨ w.heap.size ≤ cb') ∧ Kp w w' [cb, rb]
theorem eq_bool (B : Bool) (W : World) : (binOp .eql 4 (.bool B) (.bool B)).run Try.prog W = .ok (.bool true) W := by cases B <;> kernel_rfl
theorem num_kp (w : World) (e : Int) : Calls Try.prog 17 #[.int .i64 e] w fun x w' => x = .returned (.int .i64 e) ∧ Kp w w' [] := by
  refine (num_any w e).mono ?_
  rintro x w' ⟨rfl, rfl⟩
  exact ⟨rfl, Kp.refl _ _⟩
theorem cellS4 (w : World) (a b c d : Value) : (w.alloc (.cells #[a, b, c, d] 32)).cell? ⟨w.heap.size, 0, none⟩ = some a ∧ (w.alloc (.cells #[a, b, c, d] 32)).cell? ⟨w.heap.size, 1, none⟩ = some b ∧ (w.alloc (.cells #[a, b, c, d] 32)).cell? ⟨w.heap.size, 2, none⟩ = some c ∧ (w.alloc (.cells #[a, b, c, d] 32)).cell? ⟨w.heap.size, 3, none⟩ = some d := by
  refine ⟨?_, ?_, ?_, ?_⟩ <;> simp
/-- A step. -/
def stM (M : Cn) (k : Int) (on : Bool) (x y : Int) : Cn := if k = 1 then askM M else if k = 2 then { M with e := on } else if k = 3 then { M with o := on } else if k = 4 then pushM M x y else if k = 5 then popM M else if k = 6 then unwM M else M
theorem stM_len {M : Cn} (h : M.L.length ≤ 8) (k : Int) (on : Bool) (x y : Int) : (stM M k on x y).L.length ≤ 8 := by
  unfold stM
  repeat' split
  · exact h
  · exact h
  · exact h
  · exact pushM_len h x y
  · exact popM_len h
  · exact h
  · exact h
theorem sameV_self (M : Cn) : sameV M M = true := by simp [sameV, flB]
end Go.Proofs.Ytjggpchjfglgcaa
