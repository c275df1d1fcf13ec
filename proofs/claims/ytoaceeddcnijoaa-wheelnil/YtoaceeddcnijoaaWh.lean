/- A wheel in memory. -/
import Derived.Test.YtoaceeddcnijoaaCut
import Derived.Deep.MidRow
namespace Go.Proofs.Ytoaceeddcnijoaa
open Go.RowKit Go.Shelf Go.Lib Go.Sort

def vcl (F : Nat → Value) : Nat → Nat → List Value
  | 0, _ => []
  | k + 1, i => F i :: vcl F k (i + 1)
theorem vcl_length (F : Nat → Value) (k i : Nat) : (vcl F k i).length = k := by
  induction k generalizing i with
  | zero => rfl
  | succ k ih => simp [vcl, ih]
theorem vcl_at (F : Nat → Value) (k i j : Nat) (hj : j < k) : (vcl F k i)[j]? = some (F (i + j)) := by
  induction k generalizing i j with
  | zero => omega
  | succ k ih =>
    cases j with
    | zero => simp [vcl]
    | succ j =>
      simp only [vcl, List.getElem?_cons_succ]
      rw [ih (i + 1) j (by omega), show i + (j + 1) = i + 1 + j by omega]
def updV (F : Nat → Value) (i : Nat) (v : Value) : Nat → Value := fun j => if j = i then v else F j
def updD (D : Nat → List Dl) (i : Nat) (l : List Dl) : Nat → List Dl := fun j => if j = i then l else D j
theorem vcl_set (F : Nat → Value) (k j : Nat) (v : Value) (hj : j < k) : (vcl F k 0).set j v = vcl (updV F j v) k 0 := by
  apply List.ext_getElem?
  intro n
  rw [List.getElem?_set]
  rcases Nat.lt_or_ge n k with hn | hn
  · rw [vcl_at _ k 0 n hn, Nat.zero_add]
    by_cases e : j = n
    · subst e
      rw [if_pos rfl, if_pos (by rw [vcl_length]; exact hj)]
      rw [vcl_at _ k 0 j hj, Nat.zero_add]
      simp [updV]
    · rw [if_neg e, vcl_at _ k 0 n hn, Nat.zero_add]
      have : n ≠ j := fun h => e h.symm
      simp [updV, this]
  · rw [List.getElem?_eq_none (by rw [vcl_length]; exact hn)]
    by_cases e : j = n
    · omega
    · rw [if_neg e, List.getElem?_eq_none (by rw [vcl_length]; exact hn)]

/-- A wheel at block wb: its rings' slices F, their deadlines D. -/
structure Wh (w : World) (wb : Nat) (F : Nat → Value) (D : Nat → List Dl) : Prop where
  blk : w.heap[wb]? = some (.cells (vcl F 64 0 ++ [Value.bool true]).toArray 50 (0, 0))
  row : ∀ s, s < 64 → Dr w 0 (F s) (D s)
  inj : ∀ s t g, s < 64 → t < 64 → (F s).ownBlock = some g → (F t).ownBlock = some g → s = t
/-- The blocks of a wheel. -/
def rows (F : Nat → Value) (wb : Nat) : List Nat := wb :: (List.range 64).filterMap fun s => (F s).ownBlock
theorem mem_rows {F : Nat → Value} {wb k : Nat} : k ∈ rows F wb ↔ k = wb ∨ ∃ s, s < 64 ∧ (F s).ownBlock = some k := by simp [rows]
section
variable {w w' : World} {wb : Nat} {F : Nat → Value} {D : Nat → List Dl}
theorem Wh.cell (h : Wh w wb F D) {s : Nat} (hs : s < 64) : w.cell? ⟨wb, s, none⟩ = some (F s) := by
  have := vcl_at F 64 0 s hs
  rw [Nat.zero_add] at this
  simp only [World.cell?, h.blk, Option.isSome_none, Bool.false_eq_true, if_false]
  rw [List.getElem?_toArray, List.getElem?_append_left (by rw [vcl_length]; exact hs), this]
theorem Wh.made (h : Wh w wb F D) : w.cell? ⟨wb, 64, none⟩ = some (.bool true) := by
  simp only [World.cell?, h.blk, Option.isSome_none, Bool.false_eq_true, if_false]
  rw [List.getElem?_toArray, List.getElem?_append_right (by rw [vcl_length]; exact Nat.le_refl _), vcl_length]
  rfl
theorem Wh.free (h : Wh w wb F D) (s : Nat) : w.frozen? ⟨wb, s, none⟩ = false := by simp [World.frozen?, h.blk]
theorem Wh.lt (h : Wh w wb F D) : wb < w.heap.size := lt_of_block h.blk
theorem Wh.ringlt (h : Wh w wb F D) {s : Nat} (hs : s < 64) {g : Nat} (hg : (F s).ownBlock = some g) : g < w.heap.size ∧ g ≠ wb := by
  obtain ⟨-, cur, hc⟩ := owns_block (h.row s hs) hg
  exact ⟨lt_of_block hc, fun e => block_ne h.blk hc (by decide) e.symm⟩
theorem Wh.rowslt (h : Wh w wb F D) {k : Nat} (hk : k ∈ rows F wb) : k < w.heap.size := by
  rcases mem_rows.1 hk with rfl | ⟨s, hs, hg⟩
  · exact h.lt
  · exact (h.ringlt hs hg).1
theorem Wh.keep (h : Wh w wb F D) {rws : List Nat} (hk : Kp w w' rws) (hr : ∀ k ∈ rows F wb, k ∉ rws) : Wh w' wb F D :=
  ⟨(hk.block wb h.lt (hr wb (mem_rows.2 (.inl rfl)))).trans h.blk, fun s hs => (h.row s hs).kp hk fun g hg => hr g (mem_rows.2 (.inr ⟨s, hs, hg⟩)), h.inj⟩
theorem Wh.same (h : Wh w wb F D) (hk : Kp w w' []) : Wh w' wb F D := h.keep hk (by simp)
theorem Wh.range (h : Wh w wb F D) : w.rangeAt wb 0 (vcl F 64 0) := by
  intro i v hv
  rw [Nat.zero_add]
  have hi : i < 64 := by have := (List.getElem?_eq_some_iff.1 hv).1; rw [vcl_length] at this; exact this
  have := vcl_at F 64 0 i hi
  rw [hv, Nat.zero_add] at this
  rw [h.cell hi, this]
/-- A ring has changed, and its slice is laid down anew. -/
theorem Wh.ring (h : Wh w wb F D) {w1 : World} {rws : List Nat} {s : Nat} (hs : s < 64) (hk : Kp w w1 rws) (hr : ∀ k ∈ rws, (F s).ownBlock = some k) {v : Value} {l : List Dl} (hd : Dr w1 0 v l) (hb : ∀ g, v.ownBlock = some g → (F s).ownBlock = some g ∨ w.heap.size ≤ g) :
    Wh (w1.setCell ⟨wb, s, none⟩ v) wb (updV F s v) (updD D s l) := by
  have hnw : wb ∉ rws := fun hm => (h.ringlt hs (hr wb hm)).2 rfl
  have hblk := (hk.block wb h.lt hnw).trans h.blk
  have hset := Kp.setCell w1 ⟨wb, s, none⟩ v
  refine ⟨?_, fun t ht => ?_, fun t u g ht hu h1 h2 => ?_⟩
  · rw [heap_setCell_same w1 wb s _ 50 _ hblk, List.setIfInBounds_toArray, List.set_append_left _ _ (by rw [vcl_length]; exact hs), vcl_set F 64 s v hs]
  · by_cases e : t = s
    · subst e
      simp only [updV, updD, if_true]
      exact hd.kp hset fun g hg => by
        obtain ⟨-, cur, hc⟩ := owns_block hd hg
        have := block_ne hblk hc (by decide)
        simp; exact fun e => this e.symm
    · simp only [updV, updD, if_neg e]
      refine ((h.row t ht).kp hk fun g hg hm => e (h.inj t s g ht hs hg (hr g hm))).kp hset fun g hg => ?_
      have := (h.ringlt ht hg).2
      simpa using this
  · by_cases e1 : t = s
    · by_cases e2 : u = s
      · rw [e1, e2]
      · subst e1
        simp only [updV, if_true, if_neg e2] at h1 h2
        rcases hb g h1 with q | q
        · exact h.inj t u g hs hu q h2
        · have := (h.ringlt hu h2).1; omega
    · by_cases e2 : u = s
      · subst e2
        simp only [updV, if_true, if_neg e1] at h1 h2
        rcases hb g h2 with q | q
        · exact h.inj t u g ht hs h1 q
        · have := (h.ringlt ht h1).1; omega
      · simp only [updV, if_neg e1, if_neg e2] at h1 h2
        exact h.inj t u g ht hu h1 h2
end
theorem index_at (F : Nat → Value) (k : Nat) (hk : k < 64) (ao : Option Addr) (m cap : Nat) (hF : F k = .slice ao m cap) (w : World) : (Instr.index 48 (.agg (vcl F 64 0).toArray) (.int .i64 k)).run Try.prog w = .ok (.slice ao m cap) w := by
  have h2 : (sizeOf 47).run Try.prog w = .ok 1 w := by kernel_rfl
  have hu : Try.prog.underlying 48 = some (.array 64 47) := Try.underlying48
  have hk' : 0 ≤ (k : Int) ∧ (k : Int) < 64 := by omega
  have e0 := vcl_at F 64 0 k hk
  rw [Nat.zero_add, hF] at e0
  simp [Instr.index, run_underlying hu, asIntOf, hk', h2, go_sem, hk, e0]
theorem size48 (F : Nat → Value) : (Try.prog.info? 48).map (·.size) = some (vcl F 64 0).length := by rw [vcl_length]; kernel_rfl

set_option maxRecDepth 100000 in
theorem zero_no (w : World) (wb : Nat) (F : Nat → Value) (D : Nat → List Dl) (h : Wh w wb F D) : Calls Try.prog 25 #[.pointer (some ⟨wb, 0, none⟩)] w fun e w' => e = .returned (.bool false) ∧ w' = w := by
  have hm := h.made
  clear h
  go_enter Try.func25, Try.ntmps25
  go_wp2
  go_ret
  exact ⟨rfl, rfl⟩
end Go.Proofs.Ytoaceeddcnijoaa
