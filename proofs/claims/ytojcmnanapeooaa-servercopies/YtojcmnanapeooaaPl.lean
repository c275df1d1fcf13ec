/- Both servers, made since a world that is kept. -/
import Derived.Test.YtojcmnanapeooaaStands
namespace Go.Proofs.Ytojcmnanapeooaa
open Go.RowKit Go.Shelf

/-- Both, made behind w; rs are their blocks. -/
structure Pl (w W : World) (sb rb : Nat) (rs : List Nat) (s : Sv) : Prop where
  bo : Bo W sb rb rs s
  new : ∀ k ∈ rs, w.heap.size ≤ k
  kp : Kp w W []
section
variable {w W W' : World} {sb rb : Nat} {rs : List Nat} {s : Sv}
theorem Pl.did (h : Pl w W sb rb rs s) {s' : Sv} (hd : Did W W' sb rb rs s') : ∃ rs', Pl w W' sb rb rs' s' ∧ Kp W W' rs ∧ ∀ k ∈ rs', k ∈ rs ∨ W.heap.size ≤ k := by
  obtain ⟨rs', a, b, c⟩ := hd
  have hz := h.kp.size
  refine ⟨rs', ⟨a, fun k hk => ?_, h.kp.past b fun k hk hl => ?_⟩, b, c⟩
  · rcases c k hk with q | q
    · exact h.new k q
    · omega
  · have := h.new k hk
    omega
theorem Pl.step (hat : AtSame) (h : Pl w W sb rb rs s) (k t : Int) : Calls Try.prog 12 #[.pointer (some ⟨sb, 0, none⟩), .pointer (some ⟨rb, 0, none⟩), .agg #[.int .i64 k, .int .i64 t]] W fun e W' => e = .returned (.bool true) ∧ ∃ rs', Pl w W' sb rb rs' (stepS s k t) ∧ Kp W W' rs ∧ ∀ k ∈ rs', k ∈ rs ∨ W.heap.size ≤ k :=
  (does_any hat W sb rb rs s k t h.bo).mono fun _ _ ⟨a, b⟩ => ⟨a, h.did b⟩
theorem Pl.same (h : Pl w W sb rb rs s) (hk : Kp W W' []) : Pl w W' sb rb rs s := ⟨h.bo.same hk, h.new, h.kp.trans hk⟩
/-- Kept where other blocks are written. -/
theorem Pl.keep (h : Pl w W sb rb rs s) {rows : List Nat} (hk : Kp W W' rows) (hr : ∀ k ∈ rs, k ∉ rows) (hn : ∀ k ∈ rows, w.heap.size ≤ k) : Pl w W' sb rb rs s := ⟨h.bo.keep hk hr, h.new, h.kp.past hk fun k hm hl => by have := hn k hm; omega⟩
theorem Pl.stands (h : Pl w W sb rb rs s) : Calls Try.prog 13 #[.pointer (some ⟨sb, 0, none⟩), .pointer (some ⟨rb, 0, none⟩)] W fun e W' => e = .returned (.bool true) ∧ Pl w W' sb rb rs s ∧ Kp W W' [] :=
  (stands_any W sb rb rs s h.bo).mono fun _ _ ⟨a, b⟩ => ⟨a, h.same b, b⟩
end
/-- The reference's is made beside the program's. -/
theorem pl_new (w W : World) (sb : Nat) (b p m : Int) (hn : mayN b p m = true) (h : Kn w W sb (newS b p m)) : Calls Try.prog 10 #[.int .i64 b, .int .i64 p, .int .i64 m] W fun e w' => e = .returned (.pointer (some ⟨W.heap.size, 0, none⟩)) ∧ (∃ rs, Pl w w' sb W.heap.size rs (newS b p m) ∧ ∀ k ∈ rs, k < W.heap.size → ∃ v, Sr W sb v (newS b p m) ∧ k ∈ rws sb v) ∧ Kp W w' [] := by
  refine (rnew_ok W b p m hn).mono ?_
  rintro e w' ⟨rfl, hR, hk⟩
  obtain ⟨v, hv, hg⟩ := h.ex
  refine ⟨rfl, ⟨_, ⟨⟨v, _, ⟨hv.same hk, hR, fun k hk hm => ?_⟩, rfl⟩, fun k hk => ?_, h.kp.trans hk⟩, fun k hk hl => ?_⟩, hk⟩
  · have hl := hv.rlt k hk
    simp [Value.ownBlock] at hm
    omega
  · rcases List.mem_append.1 hk with q | q
    · exact hg k q
    · simp [Value.ownBlock] at q
      rw [q]
      exact h.kp.size
  · rcases List.mem_append.1 hk with q | q
    · exact ⟨v, hv, q⟩
    · simp [Value.ownBlock] at q
      omega
end Go.Proofs.Ytojcmnanapeooaa
