/- One side; two sides, apart. -/
import Derived.Test.YtoenipaccnpihaaDo
import Derived.Test.YtoenipaccnpihaaSe
import Derived.Test.YtoenipaccnpihaaKn
namespace Go.Proofs.Ytoenipaccnpihaa
open Go.RowKit Go.Shelf Go.Sort Go.Maps
open Go.Lib hiding intOf
attribute [local go_sem] Oper.semAt_some

theorem stL_len (T S : Nat) (L : El) (k t n v : Int) (x : Nat) : (stL T S L k t n v x).length ≤ L.length + 1 := by
  unfold stL
  repeat' split
  · unfold sendL
    repeat' split
    all_goals simp
  · unfold nxL
    repeat' split
    all_goals first | omega | (unfold rm; have := List.length_eraseP_le (p := fun x : Nat × Nat × Int => x.1 == t.toNat && x.2.1 == nxN T L t ‹_›) (l := L); omega)
  · unfold leftV
    split
    · have := allP_len t.toNat L.length L (Nat.le_refl _)
      omega
    · omega
  · omega
/-- What stands promises. -/
def StandsOk : Prop := ∀ (w : World) (sb rb : Nat) (R Q : List Nat) (T S : Nat) (M : Nat → Nat) (L : El) (k t n v : Int) (x : Nat) (leave : Int), x < 4294967296 → L.length ≤ 600 → Pa w sb rb R Q T S M L → Calls Try.prog 12 #[.pointer (some ⟨sb, 0, none⟩), .pointer (some ⟨rb, 0, none⟩), .agg #[.int .i64 k, .int .i64 t, .int .i64 n, .int .i64 v, .int .u32 x], .int .i64 leave] w fun e w' => e = .returned (.bool true) ∧ Kp w w' []
/-- One side, made behind w0; at most so many pending. -/
def Oc (w0 W : World) (sb rb m : Nat) : Prop := ∃ R Q T S M L, Pa W sb rb R Q T S M L ∧ L.length ≤ m ∧ (∀ k ∈ R ++ Q, w0.heap.size ≤ k) ∧ Kp w0 W []
section
variable {w0 W W' : World} {sb rb m : Nat}
theorem Oc.kp (h : Oc w0 W sb rb m) : Kp w0 W [] := by
  obtain ⟨R, Q, T, S, M, L, -, -, -, h⟩ := h
  exact h
theorem Oc.same (h : Oc w0 W sb rb m) (hk : Kp W W' []) : Oc w0 W' sb rb m := by
  obtain ⟨R, Q, T, S, M, L, h1, h2, h3, h4⟩ := h
  exact ⟨R, Q, T, S, M, L, h1.same hk, h2, h3, h4.trans hk⟩
theorem Oc.step (P : ClearOk) (h : Oc w0 W sb rb m) (hm : m ≤ 600) (k t n v : Int) (x : Nat) (hx : x < 4294967296) : Calls Try.prog 11 #[.pointer (some ⟨sb, 0, none⟩), .pointer (some ⟨rb, 0, none⟩), .agg #[.int .i64 k, .int .i64 t, .int .i64 n, .int .i64 v, .int .u32 x]] W fun e w' => ∃ sb', e = .returned (.tuple #[.pointer (some ⟨sb', 0, none⟩), .pointer (some ⟨rb, 0, none⟩), .bool true]) ∧ Oc w0 w' sb' rb (m + 1) := by
  obtain ⟨R, Q, T, S, M, L, HP, hl, h3, h4⟩ := h
  refine (do_any P W sb rb R Q T S M L k t n v x hx (by omega) HP).mono ?_
  rintro e w' ⟨sb', R', Q', rfl, h1, h2, hk⟩
  refine ⟨sb', rfl, R', Q', T, S, _, _, h1, ?_, fun y hy => ?_, h4.past hk (fun y hy hl => by have := h3 y hy; omega)⟩
  · have := stL_len T S L k t n v x
    omega
  · rcases h2 y hy with q | q
    · exact h3 y q
    · have := h4.size; omega
theorem Oc.stands (P : StandsOk) (h : Oc w0 W sb rb m) (hm : m ≤ 600) (k t n v : Int) (x : Nat) (leave : Int) (hx : x < 4294967296) : Calls Try.prog 12 #[.pointer (some ⟨sb, 0, none⟩), .pointer (some ⟨rb, 0, none⟩), .agg #[.int .i64 k, .int .i64 t, .int .i64 n, .int .i64 v, .int .u32 x], .int .i64 leave] W fun e w' => e = .returned (.bool true) ∧ Kp W w' [] := by
  obtain ⟨R, Q, T, S, M, L, HP, hl, h3, h4⟩ := h
  exact P W sb rb R Q T S M L k t n v x leave hx (by omega) HP
theorem Oc.new {w w1 w2 : World} {T S : Nat} {R1 : List Nat} (h1 : Sg w1 sb R1 T S (fun _ => 0) []) (f1 : ∀ k ∈ R1, w.heap.size ≤ k) (k1 : Kp w w1 []) (h2 : Rm w2 rb [rb] T S (fun _ => 0) []) (f2 : w1.heap.size ≤ rb) (k2 : Kp w1 w2 []) : Oc w w2 sb rb 0 := by
  have := k1.size
  refine ⟨R1, [rb], T, S, _, _, ⟨h1.same k2, h2, fun k hk hm => ?_⟩, by simp, fun k hk => ?_, k1.trans k2⟩
  · simp at hm
    have := h1.lt _ hk; omega
  · simp at hk
    rcases hk with hk | rfl
    · exact f1 k hk
    · omega
end
end Go.Proofs.Ytoenipaccnpihaa
