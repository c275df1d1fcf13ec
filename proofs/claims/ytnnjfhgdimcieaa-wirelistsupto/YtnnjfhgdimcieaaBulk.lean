/- What the bound on the bulk gives; a list of byte slices that came in, read. -/
import Derived.Test.YtnnjfhgdimcieaaArgs
import Derived.Deep.Slices
import Derived.JoinedCond
namespace Go.Proofs.Ytnnjfhgdimcieaa
open Go.ChangeShapes Go.WideShapes Go.ChangeAt Go.RowKit Go.Joins Go.Deep

/-! ### What the bound on the bulk gives -/
theorem bulk_one {H : Type} (d : DataW H) : 1 ≤ Rows.uptoBulk d := by
  cases d with
  | lit l => cases l <;> simp [Rows.uptoBulk]
  | nil => simp [Rows.uptoBulk]
  | ptr d => simp [Rows.uptoBulk]
  | slice elems spare => simp [Rows.uptoBulk]
  | agg parts => simp [Rows.uptoBulk]
  | iface t d => simp [Rows.uptoBulk]
  | map entries => simp [Rows.uptoBulk]
  | held h => simp [Rows.uptoBulk]
theorem bulk_append {H : Type} (l r : List (DataW H)) : Rows.uptoBulkAll (l ++ r) = Rows.uptoBulkAll l + Rows.uptoBulkAll r := by
  induction l with
  | nil => simp [Rows.uptoBulkAll]
  | cons x l ih => simp only [List.cons_append, Rows.uptoBulkAll, ih]; omega
theorem bulk_length {H : Type} (l : List (DataW H)) : l.length ≤ Rows.uptoBulkAll l := by
  induction l with
  | nil => simp [Rows.uptoBulkAll]
  | cons x r ih => have := bulk_one x; simp only [Rows.uptoBulkAll, List.length_cons]; omega
theorem bulk_bytes {H : Type} {d : DataW H} {l : List Int} (h : (l = [] ∧ d = .nil) ∨ ∃ es sp, d = .slice es sp ∧ l.length = es.length) : l.length ≤ Rows.uptoBulk d := by
  rcases h with ⟨rfl, rfl⟩ | ⟨es, sp, rfl, hl⟩
  · simp
  · have := bulk_length es
    simp only [Rows.uptoBulk]
    omega
theorem bulk_flat {H : Type} (f : Nat → List Int) (D : Nat → DataW H) (n : Nat) (h : ∀ i, i < n → (f i).length ≤ Rows.uptoBulk (D i)) :
    ((List.range n).map f).flatten.length ≤ Rows.uptoBulkAll ((List.range n).map D) := by
  induction n with
  | zero => simp [Rows.uptoBulkAll]
  | succ n ih =>
    rw [List.range_succ, List.map_append, List.map_append, List.flatten_append, List.length_append, bulk_append]
    have h1 := ih fun i hi => h i (by omega)
    have h2 := h n (by omega)
    simp only [List.map_cons, List.map_nil, List.flatten_cons, List.flatten_nil, List.append_nil, Rows.uptoBulkAll]
    omega

/-- A list of byte slices that came in, read. -/
theorem ls_of_trod {H : Type} {enc : TypeId × Value → H} {W : World} {base fuel : Nat} {spare : TypeId → Bool} {held : Bool} {v : Value} {d : DataW H} {p : List MemPlace}
    (hf : DataW.trod enc Try.prog W base spare held fuel 26 [v] = some (d, p)) :
    ∃ ls, Ls W v ls ∧ ls.flatten.length ≤ Rows.uptoBulk d ∧ ls.length ≤ Rows.uptoBulk d := by
  rcases open_slice1 Try.underlying26 (by kernel_rfl) hf with ⟨hcs, hx⟩ | ⟨a, len, cap, m, n, V, D, Pl, hcs, _, hl, hm, hmm, hx, hcell⟩
  · simp only [List.cons.injEq, and_true] at hcs
    subst hcs
    exact ⟨[], ⟨none, 0, [], rfl, rfl, by simp, fun h => absurd rfl h, fun i hi => by simp at hi⟩, by simp, by simp⟩
  · simp only [List.cons.injEq, and_true] at hcs
    subst hcs
    simp only [Prod.mk.injEq] at hx
    have hlm : len ≤ m := by rw [hmm]; split <;> omega
    obtain ⟨f, hf'⟩ := choose_lt (α := List Int) (n := len) (p := fun i l => Bs W (V i) l ∧ l.length ≤ Rows.uptoBulk (D i)) (fun i hi => by
      obtain ⟨-, h2⟩ := hcell i (by omega)
      obtain ⟨l, hb, -, hd⟩ := bs_of_trod h2
      exact ⟨l, hb, bulk_bytes hd⟩)
    have hd := hx.1
    refine ⟨(List.range len).map f, ⟨some a, cap, (List.range len).map V, by simp, by simp, by simpa using hl, fun hne => ?_, fun i hi => ?_⟩, ?_, ?_⟩
    · obtain ⟨b, off, spot⟩ := a
      have hpos : 0 < len := by
        rcases Nat.eq_zero_or_pos len with h0 | h0
        · subst h0; simp at hne
        · exact h0
      have hc0 := (hcell 0 (by omega)).1
      have hspot : spot = none := by simpa [Addr.add] using World.cell?_spot hc0
      subst hspot
      refine ⟨b, off, rfl, fun i hi => ?_⟩
      simp at hi
      have := (hcell i (by omega)).1
      rw [Addr.add_lit] at this
      rw [this]
      simp [List.getD, hi]
    · simp at hi
      have := (hf' i hi).1
      simpa [List.getD, hi] using this
    · have h1 := bulk_flat f D len fun i hi => (hf' i hi).2
      rw [hd]
      simp only [Rows.uptoBulk]
      omega
    · have h1 := bulk_length ((List.range len).map D)
      rw [hd]
      simp only [Rows.uptoBulk]
      simp at h1 ⊢
      omega
end Go.Proofs.Ytnnjfhgdimcieaa
