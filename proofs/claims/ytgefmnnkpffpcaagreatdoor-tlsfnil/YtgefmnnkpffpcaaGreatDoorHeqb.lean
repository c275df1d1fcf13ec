/- Two blocks compared; blocks that are read. -/
import Derived.Test.YtgefmnnkpffpcaaGreatDoorHallJ
import Derived.Laws.StructEq
namespace Go.Proofs.YtgefmnnkpffpcaaGreatDoor
open Go.RowKit Go.Maps Go.Shelf

theorem bk_neq (x y : Bk) (w : World) : (binOp .neq 44 (bval x) (bval y)).run Tryz.prog w = .ok (.bool (!(x == y))) w := by
  obtain ⟨a, z, f⟩ := x
  obtain ⟨b, u, g⟩ := y
  unfold bval
  by_cases h1 : a = b <;> by_cases h2 : z = u <;> cases f <;> cases g <;> simp [go_sem, h1, h2]

/-- The slice value v reads as the blocks l. -/
def Rb (W : World) (v : Value) (l : List Bk) : Prop :=
  ∃ ao cap, v = .slice ao l.length cap ∧ (l ≠ [] → ∃ b off, ao = some ⟨b, off, none⟩ ∧ ∀ k (hk : k < l.length), W.cell? ⟨b, off + k * 3, none⟩ = some (.int .i64 l[k].1) ∧ W.cell? ⟨b, off + k * 3 + 1, none⟩ = some (.int .i64 l[k].2.1) ∧ W.cell? ⟨b, off + k * 3 + 2, none⟩ = some (.bool l[k].2.2))
theorem Rb.keep {W W' : World} {v : Value} {l : List Bk} (h : Rb W v l) (hk : Kp W W' []) : Rb W' v l := by
  obtain ⟨ao, cap, rfl, hc⟩ := h
  refine ⟨ao, cap, rfl, fun hne => ?_⟩
  obtain ⟨b, off, rfl, hcell⟩ := hc hne
  refine ⟨b, off, rfl, fun k hkl => ?_⟩
  obtain ⟨x1, x2, x3⟩ := hcell k hkl
  exact ⟨hk.cell x1 (by simp), hk.cell x2 (by simp), hk.cell x3 (by simp)⟩
theorem Rb.of_owns {W : World} {base : Nat} {v : Value} {l : List Bk} (h : W.ownsRow base 44 3 v l.length (bcells l)) : Rb W v l := by
  rcases h.2 with ⟨rfl, h0⟩ | ⟨g, cap, cur, rfl, -⟩
  · have : l = [] := List.eq_nil_of_length_eq_zero h0
    subst this
    exact ⟨none, 0, rfl, fun hne => absurd rfl hne⟩
  · refine ⟨_, _, rfl, fun hne => ⟨g, 0, rfl, fun k hk => ?_⟩⟩
    have hb := bcells_at l k hk
    have c0 := h.cellAt (k * 3) (by omega)
    have c1 := h.cellAt (k * 3 + 1) (by omega)
    have c2 := h.cellAt (k * 3 + 2) (by omega)
    rw [hb.1] at c0
    rw [hb.2.1] at c1
    rw [hb.2.2] at c2
    rw [Nat.zero_add]
    exact ⟨c0, c1, c2⟩

/-- An iterator over the blocks BL, wherever it is called. -/
def Its (w : World) (p : Option Addr) (BL : List Bb) : Prop :=
  ∀ W bx D, Kp w W [] → W.cell? ⟨bx, 0, none⟩ = some (.pointer p) → D ≤ W.heap.size →
    SeqStopsK Fence.wide 5 Tryz.prog 91 #[.pointer (some ⟨bx, 0, none⟩)] (fun x : Bb => #[bval x.1]) (Kc D) (fun xs => xs = BL) (fun pre => pre <+: BL) BL.length W
theorem its_heap {w : World} {hb rb mb pb m : Nat} {g : Mem} {c : Int} {P : Pcs} (hH : Hp w hb rb mb pb m g c P) (hP : Okp m P) (hl : P.length ≤ 65536) {BL : List Bb} (hBL : BL.map (·.1) = blocksOf m P) : Its w (some ⟨hb, 0, none⟩) BL :=
  fun W bx D hk hbx hD => all_stops 5 (by decide) D bx hb rb mb pb m g c P BL hBL W (hH.same hk) hP hl hD hbx
end Go.Proofs.YtgefmnnkpffpcaaGreatDoor
