/- Left: what the free blocks have. -/
import Derived.Test.YtgefmnnkpffpcaaGreatDoorCapartJ
import Derived.Laws.StructEq
namespace Go.Proofs.YtgefmnnkpffpcaaGreatDoor
open Go.RowKit Go.Maps Go.Shelf
attribute [local go_sem] Oper.semAt_some

def leftOf : List Bk → Int
  | [] => 0
  | b :: r => (if b.2.2 then b.2.1 - 8 else 0) + leftOf r
theorem leftOf_snoc (l : List Bk) (b : Bk) : leftOf (l ++ [b]) = if b.2.2 then leftOf l + (b.2.1 - 8) else leftOf l := by
  induction l with
  | nil => cases hb : b.2.2 <;> simp [leftOf, hb]
  | cons x r ih =>
    simp only [List.cons_append, leftOf, ih]
    cases hb : b.2.2 <;> simp [Int.add_assoc]
theorem leftOf_bound (l : List Bb) : -8 * (l.length : Int) ≤ leftOf (l.map (·.1)) ∧ leftOf (l.map (·.1)) ≤ 1000000 * (l.length : Int) := by
  induction l with
  | nil => simp [leftOf]
  | cons b r ih =>
    have hb := b.2
    simp only [List.map_cons, leftOf, List.length_cons]
    split <;> omega

theorem cells_kept {W W' : World} {row : Option Nat} {b B : Nat} {c : Array Value} {t : TypeId} {f : Nat × Nat} (h : W.heap[b]? = some (.cells c t f)) (hg : W.grownBy W' row) (hr : ∀ r, row = some r → B ≤ r ∧ ∃ o : Obj, W.heap[r]? = some o ∧ o.isCells = false) : W'.heap[b]? = some (.cells c t f) := by
  refine (hg.block b (lt_of_block h) ?_).trans h
  intro e
  obtain ⟨-, o, ho, hc⟩ := hr b e.symm
  rw [h] at ho
  cases ho
  simp [Obj.isCells] at hc

/-- A boxed block of a round. -/
def bbox (W : World) (p : Nat) (x : Bk) : Prop := W.heap[p]? = some (.cells #[.int .i64 x.1, .int .i64 x.2.1, .bool x.2.2] 44 (0, 0))
theorem bbox.cells {W : World} {p : Nat} {x : Bk} (h : bbox W p x) : W.cell? ⟨p, 0, none⟩ = some (.int .i64 x.1) ∧ W.cell? ⟨p, 1, none⟩ = some (.int .i64 x.2.1) ∧ W.cell? ⟨p, 2, none⟩ = some (.bool x.2.2) := cell_tri h

theorem kc_put (D : Nat) (W : World) (l : Nat) (o o' : Obj) (h : W.heap[l]? = some o) (hc : o.isCells = false) : Kc D W (W.putObj l o') := by
  refine ⟨by simp [World.putObj], fun k c t f _ hk => ?_⟩
  have hne : k ≠ l := by
    rintro rfl
    rw [h] at hk
    cases hk
    simp [Obj.isCells] at hc
  exact (World.putObj_heap_other hne).trans hk

theorem Kp.toBelow {w w' : World} (h : Kp w w' []) : Below w.heap.size w w' := ⟨h.os, h.tape, h.output, h.size, fun k hk => h.block k hk (by simp)⟩

set_option maxRecDepth 100000 in
set_option maxHeartbeats 4000000 in
theorem left_any (w : World) (hb rb mb pb m : Nat) (g : Mem) (c : Int) (P : Pcs) (BL : List Bb) (hBL : BL.map (·.1) = blocksOf m P) (h : Hp w hb rb mb pb m g c P) (hP : Okp m P) (hl : P.length ≤ 65536) (hlen : BL.length ≤ 131073) :
    Calls Tryz.prog 15 #[.pointer (some ⟨hb, 0, none⟩)] w fun e w' => e = .returned (.int .i64 (leftOf (blocksOf m P))) ∧ Kp w w' [] := by
  refine (callsIn_wide (n := 6)).1 ?_
  have h1 : 1 ≤ 6 := by decide
  have hf50 : Fence.wide.fn 50 := trivial
  have A1 := hid ((Kp.alloc w (.cells #[.int .i64 0] 3) []).trans (Kp.alloc _ (.cells #[.pointer (some ⟨hb, 0, none⟩)] 23) []))
  have H1 := hid (h.same A1.out)
  rw [← hBL]
  have HB := hid hBL
  have HP := hid hP
  clear h hBL hP
  refine callsIn_of_wp_marks Tryz.func15 rfl trivial ?_ rfl
  simp only [Tryz.ntmps15, List.size_toArray, List.length_cons, List.length_nil, Nat.reduceAdd, Nat.reduceSub, Array.replicate_succ, Array.replicate_zero, List.push_toArray, List.append_toArray, List.nil_append, List.cons_append]
  gi_wp2_with (gi_at_call 50; refine (all_in _ _ _).mono ?_; rintro e w' ⟨rfl, rfl⟩)
  obtain ⟨W0, hW0⟩ : ∃ W0, (w.alloc (.cells #[.int .i64 0] 3)).alloc (.cells #[.pointer (some ⟨hb, 0, none⟩)] 23) = W0 := ⟨_, rfl⟩
  have hsz : W0.heap.size = w.heap.size + 2 := by rw [← hW0]; simp
  have hbx : W0.cell? ⟨w.heap.size + 1, 0, none⟩ = some (.pointer (some ⟨hb, 0, none⟩)) := by rw [← hW0]; exact cell_new1
  have hs0 : W0.heap[w.heap.size]? = some (.cells #[.int .i64 0] 3 (0, 0)) := by
    rw [← hW0, Below.heap_alloc _ _ _ (by simp)]; exact heap_alloc_new w _
  rw [hW0] at H1 A1 ⊢
  refine wpIn_rangeFunc_ownH rfl h1 (gf := 91) (lb := #[.pointer (some ⟨w.heap.size + 1, 0, none⟩)]) rfl trivial (enters_of Tryz.func91 (by kernel_rfl) rfl)
    (all_stops 5 (by decide) W0.heap.size (w.heap.size + 1) hb rb mb pb m g c P BL HB.out W0 H1.out HP.out hl (Nat.le_refl _) hbx) Kc.trans (fun W l o o' _ h hc _ => kc_put _ W l o o' h hc) (Below.refl _ _) (fun _ => rfl)
    (fun pre W => W.heap[w.heap.size]? = some (.cells #[.int .i64 (leftOf (pre.map (·.1)))] 3 (0, 0)) ∧ Below w.heap.size w W)
    (fun _ _ _ => False)
    (OwnFrom.and (fun s A B row hs hg hr => cells_kept hs hg hr) (ownFrom_below (Nat.le_refl _) (by omega)))
    (fun _ _ _ _ _ hs _ _ => hs)
    ⟨hs0, A1.out.toBelow⟩
    (fun x a' W => ∃ p, bbox W p x.1 ∧ a' = { tmps := #[.pointer (some ⟨hb, 0, none⟩), undef, .int .i64 0, .pointer (some ⟨w.heap.size, 0, none⟩), .pointer (some ⟨p, 0, none⟩), .pointer (some ⟨hb, 0, none⟩), .func (.func 91) #[] #[.pointer (some ⟨w.heap.size + 1, 0, none⟩)], bval x.1, undef, undef, undef, undef, undef, undef, undef, undef], defers := [] })
    (fun x a' s A B row hs hg hr => by obtain ⟨p, x2, x3⟩ := hs; exact ⟨p, cells_kept x2 hg hr, x3⟩)
    ?assign ?body ?done ?stop
  case assign =>
    rintro l pre x W K ⟨hi1, hi2⟩ hK
    have HK := hid hK
    clear hK
    unfold bval
    gi_wp2
    refine HK.out _ _ ((KeepsOthers.alloc _ _).from _) (Kc.of_kp (Kp.alloc _ _ []) (by simp)) ⟨(Below.heap_alloc _ _ _ (lt_of_block hi1)).trans hi1, hi2.trans (((Below.refl _ W).alloc (Nat.le_refl _) _).mono hi2.size)⟩ ⟨W.heap.size, heap_alloc_new W _, rfl⟩
  case body =>
    rintro l pre x a' W hlw ⟨rr, hrr⟩ ⟨hi1, hi2⟩ ⟨p, hbb, rfl⟩ hpre
    have hne : p ≠ w.heap.size := by
      rintro rfl
      unfold bbox at hbb
      rw [hi1] at hbb
      simp at hbb
    obtain ⟨b0, b1, b2⟩ := hbb.cells
    have hx := x.2
    have hbd := leftOf_bound pre
    obtain ⟨s, hs⟩ : ∃ s, leftOf (pre.map (·.1)) = s := ⟨_, rfl⟩
    have HI1 := hid hi1
    rw [hs] at hbd HI1
    have u1 := cell_one HI1.out
    have f1 := free_one HI1.out
    have HI2 := hid hi2
    have SN := hid (show leftOf ((pre ++ [x]).map (·.1)) = if x.1.2.2 then s + (x.1.2.1 - 8) else s by rw [List.map_append, List.map_cons, List.map_nil, leftOf_snoc, hs])
    clear hi1 hi2 hbb hs hrr
    cases hfr : x.1.2.2 with
    | true =>
      rw [hfr] at b2
      have E := hid (show leftOf ((pre ++ [x]).map (·.1)) = s + (x.1.2.1 - 8) by rw [SN.out, hfr]; rfl)
      clear hfr
      gi_wp2
      refine ⟨(KeepsOthers.setCell _ _ _).from _, Kc.of_kp (Kp.setCell _ ⟨w.heap.size, 0, none⟩ _) (by simp; omega), ?_, ?_⟩
      · rw [E.out]; exact set_one HI1.out
      · exact HI2.out.setCell (p := ⟨w.heap.size, 0, none⟩) (Nat.le_refl _) _
    | false =>
      rw [hfr] at b2
      have E := hid (show leftOf ((pre ++ [x]).map (·.1)) = s by rw [SN.out, hfr]; rfl)
      clear hfr
      gi_wp2
      refine ⟨(KeepsOthers.refl _).from _, Kc.refl _ _, ?_, HI2.out⟩
      rw [E.out]; exact HI1.out
  case done =>
    rintro D ys W hD rfl ⟨hi1, hi2⟩ hK
    have u1 := cell_one hi1
    have HK := hid hK
    have HI2 := hid hi2
    clear hK hi2 hi1
    gi_wp2
    refine ⟨by simp, .inl ⟨_, _, rfl, run_takeDeferred HK.out, ?_⟩⟩
    refine ⟨_, results_tmp rfl _ _ _, rfl, ?_⟩
    have hk := Kp.of_below HI2.out
    exact ⟨hk.os, hk.tape, hk.output, by have := hk.size; simp [World.putObj]; exact this, fun k hk' _ => (World.putObj_heap_other (by omega)).trans (hk.block k hk' (by simp))⟩
  case stop =>
    rintro D cc pre W _ _ hx _
    exact hx.elim
end Go.Proofs.YtgefmnnkpffpcaaGreatDoor

/- Two blocks compared; blocks that are read. -/
namespace Go.Proofs.YtgefmnnkpffpcaaGreatDoor
open Go.RowKit Go.Maps Go.Shelf

theorem bk_neq (x y : Bk) (w : World) : (binOp .neq 44 (bval x) (bval y)).run Tryz.prog w = .ok (.bool (!(x == y))) w := by
  obtain ⟨a, z, f⟩ := x
  obtain ⟨b, u, g⟩ := y
  unfold bval
  by_cases h1 : a = b <;> by_cases h2 : z = u <;> cases f <;> cases g <;> simp [go_sem, h1, h2]

/-- The slice value v reads as the blocks l. -/
def Rb (W : World) (v : Value) (l : List Bk) : Prop :=
  ∃ ao cap, v = .slice ao l.length cap ∧ (l ≠ [] → ∃ b off, ao = some ⟨b, off, none⟩ ∧ ∀ k (hk : k < l.length), W.cell? ⟨b, off + k * 3, none⟩ = some (.int .i64 l[k].1) ∧ W.cell? ⟨b, off + k * 3 + 1, none⟩ = some (.int .i64 l[k].2.1) ∧ W.cell? ⟨b, off + k * 3 + 2, none⟩ = some (.bool l[k].2.2))
theorem Rb.keep {W W' : World} {v : Value} {l : List Bk} (h : Rb W v l) (hk : Kp W W' []) : Rb W' v l := by
  obtain ⟨ao, cap, rfl, hc⟩ := h
  refine ⟨ao, cap, rfl, fun hne => ?_⟩
  obtain ⟨b, off, rfl, hcell⟩ := hc hne
  refine ⟨b, off, rfl, fun k hkl => ?_⟩
  obtain ⟨x1, x2, x3⟩ := hcell k hkl
  exact ⟨hk.cell x1 (by simp), hk.cell x2 (by simp), hk.cell x3 (by simp)⟩
theorem Rb.of_owns {W : World} {base : Nat} {v : Value} {l : List Bk} (h : W.ownsRow base 44 3 v l.length (bcells l)) : Rb W v l := by
  rcases h.2 with ⟨rfl, h0⟩ | ⟨g, cap, cur, rfl, -⟩
  · have : l = [] := List.eq_nil_of_length_eq_zero h0
    subst this
    exact ⟨none, 0, rfl, fun hne => absurd rfl hne⟩
  · refine ⟨_, _, rfl, fun hne => ⟨g, 0, rfl, fun k hk => ?_⟩⟩
    have hb := bcells_at l k hk
    have c0 := h.cellAt (k * 3) (by omega)
    have c1 := h.cellAt (k * 3 + 1) (by omega)
    have c2 := h.cellAt (k * 3 + 2) (by omega)
    rw [hb.1] at c0
    rw [hb.2.1] at c1
    rw [hb.2.2] at c2
    rw [Nat.zero_add]
    exact ⟨c0, c1, c2⟩

/-- An iterator over the blocks BL, wherever it is called. -/
def Its (w : World) (p : Option Addr) (BL : List Bb) : Prop :=
  ∀ W bx D, Kp w W [] → W.cell? ⟨bx, 0, none⟩ = some (.pointer p) → D ≤ W.heap.size →
    SeqStopsK Fence.wide 5 Tryz.prog 91 #[.pointer (some ⟨bx, 0, none⟩)] (fun x : Bb => #[bval x.1]) (Kc D) (fun xs => xs = BL) (fun pre => pre <+: BL) BL.length W
theorem its_heap {w : World} {hb rb mb pb m : Nat} {g : Mem} {c : Int} {P : Pcs} (hH : Hp w hb rb mb pb m g c P) (hP : Okp m P) (hl : P.length ≤ 65536) {BL : List Bb} (hBL : BL.map (·.1) = blocksOf m P) : Its w (some ⟨hb, 0, none⟩) BL :=
  fun W bx D hk hbx hD => all_stops 5 (by decide) D bx hb rb mb pb m g c P BL hBL W (hH.same hk) hP hl hD hbx
end Go.Proofs.YtgefmnnkpffpcaaGreatDoor
