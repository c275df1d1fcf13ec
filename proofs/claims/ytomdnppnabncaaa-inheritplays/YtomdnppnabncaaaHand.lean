/- All: what is handed on. -/
import Derived.Test.YtomdnppnabncaaaCh
namespace Go.Proofs.Ytomdnppnabncaaa
open Go.RowKit Go.Shelf
open Go.Lib hiding intOf

/-- All's numbers under way: they lie at g, the box that has them at xb. -/
structure Nw (w wr : World) (g xb n : Nat) (L : List Int) : Prop where
  ns : Ns wr w.heap.size (.slice (some ⟨g, 0, none⟩) n n) L
  bx : wr.heap[xb]? = some (.cells #[.slice (some ⟨g, 0, none⟩) n n] 35 (0, 0))
  lo : w.heap.size ≤ xb
  kp : Kp w wr []
  len : L.length = n
section
variable {w wr : World} {g xb n : Nat} {L : List Int}
theorem Nw.ne (h : Nw w wr g xb n L) : xb ≠ g ∧ w.heap.size ≤ g := by
  obtain ⟨cur, -, hb, hg, -⟩ := h.ns.open
  exact ⟨block_ne h.bx hg (by decide), hb⟩
theorem Nw.put (h : Nw w wr g xb n L) (i : Nat) (x : Int) : Nw w (wr.setCell ⟨g, i, none⟩ (.int .i64 x)) g xb n (L.set i x) :=
  ⟨h.ns.set x, ((Kp.setCell wr ⟨g, i, none⟩ _).block xb (lt_of_block h.bx) (by simp; exact h.ne.1)).trans h.bx, h.lo, h.kp.past (Kp.setCell wr ⟨g, i, none⟩ _) (by intro j hj hl; have := h.ne.2; simp at hj; omega), by rw [List.length_set]; exact h.len⟩
theorem Nw.same {wq : World} (h : Nw w wr g xb n L) (hk : Kp wr wq []) : Nw w wq g xb n L :=
  ⟨h.ns.keep hk, (hk.block xb (lt_of_block h.bx) (by simp)).trans h.bx, h.lo, h.kp.trans hk, h.len⟩
theorem Nw.drew (h : Nw w wr g xb n L) : Nw w wr.drew g xb n L := h.same (Kp.drew _ _)
theorem Nw.drewN (h : Nw w wr g xb n L) (k : Nat) : Nw w (wr.drewN k) g xb n L := h.same (Kp.drewN _ _ _)
theorem Nw.at (h : Nw w wr g xb n L) {i : Nat} (hi : i < n) : wr.cell? ⟨g, i, none⟩ = some (.int .i64 L[i]!) ∧ wr.frozen? ⟨g, i, none⟩ = false := by
  obtain ⟨g', e, c, f⟩ := h.ns.at (k := i) (by have := h.len; omega) rfl
  simp at e
  subst e
  exact ⟨c, f⟩
theorem Nw.box (h : Nw w wr g xb n L) : wr.cell? ⟨xb, 0, none⟩ = some (.slice (some ⟨g, 0, none⟩) n n) := cell_one h.bx
theorem Nw.gap (h : Nw w wr g xb n L) : gapOf wr g n = gap L := by
  unfold gapOf
  congr 1
  apply List.ext_getElem
  · simp [h.len]
  · intro i h1 h2
    have hi : i < n := by simpa using h1
    simp [(h.at hi).1, h2]
end
/-- The edges of those below m are kept, but that of u. -/
def Edg (G : Gs) (L : List Int) (m u : Nat) : Prop := ∀ s, s < m → s ≠ u → 0 ≤ G.w s → L[s]! ≤ L[(G.w s).toNat]!
def Edges (G : Gs) (L : List Int) (m : Nat) : Prop := ∀ s, s < m → 0 ≤ G.w s → L[s]! ≤ L[(G.w s).toNat]!
theorem Edg.raise {G : Gs} (hG : Gok G) {L : List Int} {m u v : Nat} (hm : m ≤ G.n) (hl : L.length = G.n) (hu : u < G.n) (hw : G.w u = v) (h : Edg G L m u) (hlt : L[v]! < L[u]!) : Edg G (L.set v L[u]!) m v := by
  intro s hs hne h0
  have hv : v < L.length := by have := hG.wt u hu; omega
  have hb := hG.wt s (by omega)
  rw [set_get hv, set_get hv, if_neg hne]
  by_cases e : s = u
  · subst e
    rw [hw, Int.toNat_natCast, if_pos rfl]
    exact Int.le_refl _
  · have := h s hs e h0
    by_cases e2 : (G.w s).toNat = v
    · rw [if_pos e2]
      rw [e2] at this
      omega
    · rw [if_neg e2]
      exact this
theorem Edg.all {G : Gs} {L : List Int} {m u : Nat} (h : Edg G L m u) (hu : 0 ≤ G.w u → L[u]! ≤ L[(G.w u).toNat]!) : Edges G L m := by
  intro s hs h0
  by_cases e : s = u
  · subst e
    exact hu h0
  · exact h s hs e h0
set_option maxRecDepth 100000 in
theorem raise_any (w W : World) (g xb n : Nat) (L : List Int) (t : Nat) (x : Int) (h : Nw w W g xb n L) (ht : t < n) (hn : n ≤ 16) : Calls Try.prog 27 #[.int .i64 t, .int .i64 x, .pointer (some ⟨xb, 0, none⟩)] W fun e w' => e = .returned (.bool (decide (L[t]! < x))) ∧ Nw w w' g xb n (L.set t (max L[t]! x)) := by
  have cb := h.box
  obtain ⟨ct, ft⟩ := h.at ht
  obtain ⟨y, hy⟩ : ∃ y, L[t]! = y := ⟨_, rfl⟩
  rw [hy] at ct
  rw [hy]
  have R2 := hid (show Nw w (W.drew.setCell ⟨g, t, none⟩ (.int .i64 (max y x))) g xb n (L.set t (max y x)) from h.drew.put t _)
  have htI : (t : Int) < n := by omega
  have hnI : (n : Int) ≤ 16 := by omega
  clear h hy
  go_enter Try.func27, Try.ntmps27
  go_wp2_with fail
  go_region
  go_wp2_with fail
  go_ret
  exact ⟨rfl, R2.out⟩
end Go.Proofs.Ytomdnppnabncaaa
