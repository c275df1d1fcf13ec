/- How deadlines are compared: cmp.Compare, and the closure that inOrder hands on. -/
import Derived.Test.YtllkopekfanfaaaShelf
import Derived.Test.YtllkopekfanfaaaArr
import Derived.Test.YtllkopekfanfaaaRows
import Derived.WalkSpells
namespace Go.Proofs.Ytllkopekfanfaaa
open Go.RowKit Go.Shelf Go.Lib Go.Sort

/-- A fact is kept from the walk. -/
theorem hid {p : Prop} (h : p) : Hid p := h
/-- A deadline's two cells. -/
def encD (x : Dl) : List Value := [.int .i64 x.1, .int .i64 x.2]
abbrev dv (x : Dl) : Value := .agg #[.int .i64 x.1, .int .i64 x.2]
def cfD (x y : Dl) : Int := Lib.compareInt y.2 x.2
theorem lt_cf : ltOf cfD = ltD := by
  funext x y
  unfold ltOf cfD ltD Lib.compareInt
  by_cases h : y.2 < x.2
  · simp [h]
  · simp only [h, if_false, decide_false]
    split <;> rfl
theorem lenD (x : Dl) : (encD x).length = 2 := rfl
theorem oneD (x : Dl) : ∀ v ∈ encD x, v.oneCell' = true := by
  intro v hv
  simp [encD] at hv
  rcases hv with rfl | rfl <;> rfl

set_option maxRecDepth 100000 in
theorem nan_any (w : World) (x : Int) : Calls Try.prog 97 #[.int .i64 x] w fun e w' => e = .returned (.bool false) ∧ w' = w := by
  have h : (x != x) = false := by simp
  go_enter Try.func97, Try.ntmps97
  go_wp2
  go_ret
  exact ⟨rfl, rfl⟩
set_option maxRecDepth 100000 in
theorem compare_any (w : World) (x y : Int) : Calls Try.prog 94 #[.int .i64 x, .int .i64 y] w fun e w' => e = .returned (.int .i64 (Lib.compareInt x y)) ∧ w' = w := by
  unfold Lib.compareInt
  by_cases h1 : x < y
  · rw [if_pos h1]
    go_enter Try.func94, Try.ntmps94
    go_wp2_with (go_at_call 97; refine (nan_any _ _).mono ?_; rintro e w' ⟨rfl, rfl⟩)
    go_ret
    exact ⟨rfl, rfl⟩
  · rw [if_neg h1]
    by_cases h2 : y < x
    · rw [if_pos h2]
      go_enter Try.func94, Try.ntmps94
      go_wp2_with (go_at_call 97; refine (nan_any _ _).mono ?_; rintro e w' ⟨rfl, rfl⟩)
      go_ret
      exact ⟨rfl, rfl⟩
    · rw [if_neg h2]
      go_enter Try.func94, Try.ntmps94
      go_wp2_with (go_at_call 97; refine (nan_any _ _).mono ?_; rintro e w' ⟨rfl, rfl⟩)
      go_ret
      exact ⟨rfl, rfl⟩
set_option maxRecDepth 100000 in
/-- The closure: two blocks are laid. -/
theorem closure53 (x y : Dl) (W : World) : Calls Try.prog 93 #[dv x, dv y] W fun e w' => e = .returned (.int .i64 (cfD x y)) ∧ ∃ q os', w' = grow (W.drewN q) os' := by
  have hcon := fun W' => compare_any W' y.2 x.2
  unfold cfD
  generalize Lib.compareInt y.2 x.2 = r at hcon ⊢
  go_enter Try.func93, Try.ntmps93
  go_wp2_with (go_at_call 94; refine (hcon _).mono ?_; rintro e w' ⟨rfl, rfl⟩)
  go_ret
  exact ⟨rfl, 0, _, by rw [alloc_eq_grow, alloc_eq_grow, grow_grow]; rfl⟩
theorem cmpLays (blk off size : Nat) (w : World) : CmpLays Try.prog 93 #[] encD 2 cfD blk off size w := fun _ _ _ _ x y => closure53 x y _
set_option maxRecDepth 100000 in
theorem enters53 : ∀ args w, (callFunc 93 args).run Try.prog w = .ok (.enter 93 args) w := enters_of Try.func93 (by kernel_rfl) rfl
abbrev cmpV : Value := .func (.func 93) #[] #[]

/-- A row that is being sorted: the base world's, but for the row's block, and blocks behind. -/
abbrev Sw (w0 : World) (blk : Nat) (L : List Dl) (W : World) : Prop := SWK encD 2 w0 blk 0 L.toArray W
abbrev Hk (w0 : World) (blk : Nat) (L : List Dl) : Prop := HoldsK encD 2 w0 blk 0 L.toArray
theorem Hk.cells {W : World} {blk : Nat} {L : List Dl} (h : Hk W blk L) {i : Nat} (hi : i < L.length) : W.cell? ⟨blk, i * 2, none⟩ = some (.int .i64 L[i]!.1) ∧ W.cell? ⟨blk, i * 2 + 1, none⟩ = some (.int .i64 L[i]!.2) ∧ W.frozen? ⟨blk, i * 2, none⟩ = false ∧ W.frozen? ⟨blk, i * 2 + 1, none⟩ = false := by
  have h0 := HoldsK.cell h (i := i) (c := 0) (by simpa using hi) (by decide)
  have h1 := HoldsK.cell h (i := i) (c := 1) (by simpa using hi) (by decide)
  rw [arr_get] at h0 h1
  rw [Nat.zero_add] at h0 h1
  exact ⟨h0.1, h1.1, h0.2, h1.2⟩
set_option maxRecDepth 100000 in
/-- Insertion sort of a part. -/
theorem ins_any (w0 : World) (blk cap : Nat) (A X R : List Dl) (L0 : List Dl) (W : World) (a b : Nat) (hS : Sw w0 blk (A ++ X ++ R) W) (h0 : Hk w0 blk L0) (hl : L0.length = (A ++ X ++ R).length) (hblk : blk < w0.heap.size) (ha : a = A.length) (hb : b = A.length + X.length) (hsz : (A ++ X ++ R).length < 1000000) :
    Calls Try.prog 99 #[.slice (some ⟨blk, 0, none⟩) (A ++ X ++ R).length cap, .int .i64 a, .int .i64 b, cmpV] W fun e w' => e = .returned (.tuple #[]) ∧ ∃ Z, St X Z ∧ Sw w0 blk (A ++ Z ++ R) w' := by
  have hH := hS.holds hblk h0 (by simp at hl ⊢; omega)
  have hsz2 : (A ++ X ++ R).toArray.size = (A ++ X ++ R).length := by simp
  have hc := AnyQ.insertionSortCmpFunc Try.lIns 2 Try.isAgg103 Try.sizeOf103 encD lenD oneD cfD 93 #[] blk 0 cap a b (A ++ X ++ R).toArray W enters53 (cmpLays _ _ _ _) hH (hS.lt hblk) (by omega) (by rw [hsz2]; simp; omega) (by rw [hsz2]; omega)
  rw [hsz2] at hc
  refine hc.mono ?_
  rintro e w' ⟨rfl, n, os, rfl⟩
  obtain ⟨Z, hZ, e⟩ := ins_st A X R a b ha hb
  rw [lt_cf, e]
  have hz := hZ.length
  exact ⟨rfl, Z, hZ, hS.on hblk n _ os (by simp; omega)⟩
end Go.Proofs.Ytllkopekfanfaaa
