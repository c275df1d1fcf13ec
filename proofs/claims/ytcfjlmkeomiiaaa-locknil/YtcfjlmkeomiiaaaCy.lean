/- Copy. -/
import Derived.Test.YtcfjlmkeomiiaaaLm
namespace Go.Proofs.Ytcfjlmkeomiiaaa
open Go.RowKit Go.Shelf Go.Lib Go.Sort Go.Maps
attribute [local go_sem] Oper.semAt_some

/-- A copy, under way: so many lines stand. -/
structure Cs (w : World) (cb mb i : Nat) (P : Pcs) (M : Lk) (W : World) : Prop where
  ex : ∃ pa pb Ra Rb, W.heap[cb]? = some (.cells #[.int .i64 M.w, .map (some mb), .pointer pa, .pointer pb] 57 (0, 0)) ∧ (∀ k ∈ Ra, w.heap.size ≤ k ∧ k ≠ mb) ∧ (∀ k ∈ Rb, w.heap.size ≤ k ∧ k ≠ mb) ∧ (∀ k ∈ Ra, k ∉ Rb) ∧ (1 ≤ i → ∃ a, pa = some ⟨a, 0, none⟩ ∧ Wr W a Ra M.r) ∧ (2 ≤ i → ∃ b, pb = some ⟨b, 0, none⟩ ∧ Wr W b Rb M.q)
  mp : Mp W mb P
  fm : w.heap.size ≤ mb
  fc : w.heap.size ≤ cb
  kp : Kp w W []
theorem set_four2 {w : World} {r : Nat} {x a b c d : Value} {t : TypeId} (h : w.heap[r]? = some (.cells #[a, b, c, d] t (0, 0))) : (w.setCell ⟨r, 2, none⟩ x).heap[r]? = some (.cells #[a, b, x, d] t (0, 0)) := by
  rw [heap_setCell_same w r 2 _ t x h]
  rfl
theorem set_four3 {w : World} {r : Nat} {x a b c d : Value} {t : TypeId} (h : w.heap[r]? = some (.cells #[a, b, c, d] t (0, 0))) : (w.setCell ⟨r, 3, none⟩ x).heap[r]? = some (.cells #[a, b, c, x] t (0, 0)) := by
  rw [heap_setCell_same w r 3 _ t x h]
  rfl
variable {w W z : World} {cb mb wb : Nat} {P : Pcs} {M : Lk} {R' : List Nat}
theorem Cs.cells {i : Nat} (h : Cs w cb mb i P M W) (hk : Kp W z []) : ∃ pa pb, z.cell? ⟨cb, 2, none⟩ = some (.pointer pa) ∧ z.cell? ⟨cb, 3, none⟩ = some (.pointer pb) ∧ z.frozen? ⟨cb, 2, none⟩ = false ∧ z.frozen? ⟨cb, 3, none⟩ = false := by
  obtain ⟨pa, pb, Ra, Rb, hb, -⟩ := h.ex
  have hz := (hk.block cb (lt_of_block hb) (by simp)).trans hb
  exact ⟨pa, pb, by simp [World.cell?, hz], by simp [World.cell?, hz], by simp [World.frozen?, hz], by simp [World.frozen?, hz]⟩
theorem Cs.one (h : Cs w cb mb 0 P M W) (hk : Kp W z []) (hw : Wr z wb R' M.r) (hf : ∀ k ∈ R', W.heap.size ≤ k) : Cs w cb mb 1 P M (z.setCell ⟨cb, 2, none⟩ (.pointer (some ⟨wb, 0, none⟩))) := by
  obtain ⟨pa, pb, Ra, Rb, hb, -⟩ := h.ex
  have hz := (hk.block cb (lt_of_block hb) (by simp)).trans hb
  have hs := Kp.setCell z ⟨cb, 2, none⟩ (.pointer (some ⟨wb, 0, none⟩))
  have hne : mb ≠ cb := by
    obtain ⟨es, cl, hp⟩ := h.mp.obj
    rintro rfl
    rw [hb] at hp
    cases hp
  obtain ⟨es, cl, hpm⟩ := h.mp.obj
  have hlm := lt_of_block hpm
  refine ⟨⟨_, pb, R', [], set_four2 hz, fun k hm => ⟨Nat.le_trans h.kp.size (hf k hm), fun e => by have := hf k hm; omega⟩, by simp, by simp, fun _ => ⟨wb, rfl, hw.keep hs (fun k hm e => ?_)⟩, fun h => absurd h (by decide)⟩, (h.mp.keep hk (by simp)).keep hs (by simp; exact hne), h.fm, h.fc, (h.kp.trans hk).past hs (fun k hm hl => ?_)⟩
  · simp at e
    have := hf k hm
    have := lt_of_block hb
    omega
  · simp at hm
    have := h.fc
    omega
theorem Cs.two (h : Cs w cb mb 1 P M W) (hk : Kp W z []) (hw : Wr z wb R' M.q) (hf : ∀ k ∈ R', W.heap.size ≤ k) : Cs w cb mb 2 P M (z.setCell ⟨cb, 3, none⟩ (.pointer (some ⟨wb, 0, none⟩))) := by
  obtain ⟨pa, pb, Ra, Rb, hb, fa, -, -, hA, -⟩ := h.ex
  obtain ⟨a, ea, hA'⟩ := hA (by decide)
  subst ea
  clear hA
  have hz := (hk.block cb (lt_of_block hb) (by simp)).trans hb
  have hs := Kp.setCell z ⟨cb, 3, none⟩ (.pointer (some ⟨wb, 0, none⟩))
  obtain ⟨es, cl, hpm⟩ := h.mp.obj
  have hlm := lt_of_block hpm
  have hne : mb ≠ cb := by
    rintro rfl
    rw [hb] at hpm
    cases hpm
  refine ⟨⟨_, _, Ra, R', set_four3 hz, fa, fun k hm => ⟨Nat.le_trans h.kp.size (hf k hm), fun e => by have := hf k hm; omega⟩, fun k hm e => ?_, fun _ => ⟨a, rfl, (hA'.same hk).keep hs (fun k hm e => ?_)⟩, fun _ => ⟨wb, rfl, hw.keep hs (fun k hm e => ?_)⟩⟩, (h.mp.keep hk (by simp)).keep hs (by simp; exact hne), h.fm, h.fc, (h.kp.trans hk).past hs (fun k hm hl => ?_)⟩
  · have := hf k e
    have := hA'.lt k hm
    omega
  · simp at e
    subst e
    exact hA'.not57 _ hm _ hb
  · simp at e
    have := hf k hm
    have := lt_of_block hb
    omega
  · simp at hm
    have := h.fc
    omega
theorem Cs.done (h : Cs w cb mb 2 P M W) (hT : Tie P M.c) (lo : -1 ≤ M.w) (hi : M.w < 16) : ∃ R', Lc W cb R' M ∧ (∀ k ∈ R', w.heap.size ≤ k) := by
  obtain ⟨pa, pb, Ra, Rb, hb, fa, fb, ap, hA, hB⟩ := h.ex
  obtain ⟨a, ea, hA'⟩ := hA (by decide)
  subst ea
  clear hA
  obtain ⟨b, eb, hB'⟩ := hB (by decide)
  subst eb
  clear hB
  refine ⟨_, ⟨mb, a, b, Ra, Rb, rfl, hb, ⟨P, h.mp, hT⟩, hA', hB', fun hm => (fa _ hm).2 rfl, fun hm => (fb _ hm).2 rfl, ap, lo, hi⟩, fun k hm => ?_⟩
  have := h.fm
  have := h.fc
  simp only [List.mem_cons, List.mem_append] at hm
  rcases hm with rfl | rfl | hm | hm
  · omega
  · omega
  · exact (fa k hm).1
  · exact (fb k hm).1
set_option maxRecDepth 100000 in
theorem lcopy_no (w : World) (p : Option Addr) (h : Zl w p) : Calls Try.prog 33 #[.pointer p] w fun e w' => e = .returned (.pointer none) ∧ w' = w := by
  have HZ := hid (lzero_yes w p h)
  clear h
  go_enter Try.func33, Try.ntmps33
  go_wp2_with fail
  refine HZ.out.mono ?_
  rintro e w1 ⟨rfl, hw⟩; obtain rfl := hw.symm
  go_wp2
  go_ret
  exact ⟨rfl, rfl⟩
theorem idx0 (a b : Value) (W : World) : (Instr.index 55 (.agg #[a, b]) (.int .i64 0)).run Try.prog W = .ok a W := by kernel_rfl
theorem idx1 (a b : Value) (W : World) : (Instr.index 55 (.agg #[a, b]) (.int .i64 1)).run Try.prog W = .ok b W := by kernel_rfl
set_option maxRecDepth 100000 in
set_option maxHeartbeats 2000000 in
/-- Copy. -/
theorem lcopy (w : World) (lb : Nat) (R : List Nat) (M : Lk) (h : Lc w lb R M) : Calls Try.prog 33 #[.pointer (some ⟨lb, 0, none⟩)] w fun e w' => ∃ cb R', e = .returned (.pointer (some ⟨cb, 0, none⟩)) ∧ Lc w' cb R' M ∧ (∀ k ∈ R', w.heap.size ≤ k) ∧ Kp w w' [] := by
  have HZ := hid (lzero_no w lb R M h)
  obtain ⟨mb, a, b, Ra, Rb, rfl, h⟩ := h
  obtain ⟨P, hP, hT⟩ := h.mp
  have CC := hid (fun (z : World) (hk : Kp w z []) => And.intro (hk.cell h.c0 (by simp)) (hk.cell h.c1 (by simp)))
  have CD := hid (fun (z : World) (hk : Kp w z []) => And.intro (hk.cell h.c2 (by simp)) (hk.cell h.c3 (by simp)))
  have HC := hid (fun (z : World) (hk : Kp w z []) => mclone_any z mb P (hP.keep hk (by simp)))
  have HA := hid (fun (z : World) (hk : Kp w z []) => (h.wr.same hk).copy)
  have HB := hid (fun (z : World) (hk : Kp w z []) => (h.wq.same hk).copy)
  have DN := hid (fun (W : World) (cb m : Nat) (hc : Cs w cb m 2 P M W) => (show ∃ cb' R', (some ⟨cb, 0, none⟩ : Option Addr) = some ⟨cb', 0, none⟩ ∧ Lc W cb' R' M ∧ (∀ k ∈ R', w.heap.size ≤ k) ∧ Kp w W [] from by
    obtain ⟨R', h1, h2⟩ := hc.done hT h.lo h.hi
    exact ⟨cb, R', rfl, h1, h2, hc.kp⟩))
  have c01 := CC.out w (Kp.refl _ _)
  obtain ⟨c0, c1⟩ := c01
  clear h hP hT
  go_enter Try.func33, Try.ntmps33
  go_wp2_with fail
  refine HZ.out.mono ?_
  rintro e w1 ⟨rfl, hw⟩; obtain rfl := hw.symm
  go_wp2_with fail
  go_region_held_law (fun w1 => w1.cell? ⟨lb, 0, none⟩ = some (.int .i64 M.w) ∧ w1.cell? ⟨lb, 1, none⟩ = some (.map (some mb)))
    (first
      | exact CC.out _ (Kp.drew _ _)
      | exact CC.out _ ((Kp.drew _ _).trans hK1)
      | exact CC.out _ (((Kp.drew _ _).trans hK1).trans (Kp.alloc _ _ [])))
    (first
      | (go_at_call 67; refine (HC.out _ (Kp.drew _ _)).mono ?_; rintro e z1 ⟨rfl, hm1, hK1⟩)
      | fail)
  have hd0 : w.drew.heap.size = w.heap.size := rfl
  have ka := Kp.alloc z1 (.cells #[.int .i64 M.w, .map (some w.heap.size), .pointer none, .pointer none] 57) []
  have hs1 := hK1.size
  have C0 := hid (show Cs w z1.heap.size w.heap.size 0 P M (z1.alloc (.cells #[.int .i64 M.w, .map (some w.heap.size), .pointer none, .pointer none] 57)) from
    ⟨⟨none, none, [], [], heap_alloc_new z1 _, by simp, by simp, by simp, fun h => absurd h (by decide), fun h => absurd h (by decide)⟩, hm1.keep ka (by simp), Nat.le_refl _, by omega, ((Kp.drew w []).trans hK1).trans ka⟩)
  have hK := ((Kp.drew w []).trans hK1).trans ka
  clear hm1 hK1 hs1 hd0 ka c0 c1
  obtain ⟨cb, hcb⟩ : ∃ cb, z1.heap.size = cb := ⟨_, rfl⟩
  rw [hcb] at C0 ⊢
  obtain ⟨W1, hW1⟩ : ∃ W1, z1.alloc (.cells #[.int .i64 M.w, .map (some w.heap.size), .pointer none, .pointer none] 57) = W1 := ⟨_, rfl⟩
  rw [hW1] at C0 hK ⊢
  obtain ⟨c2, c3⟩ := CD.out W1 hK
  clear hcb hW1 hK
  go_wp2_with fail
  go_loopw [23] (fun v wr => ∃ i : Nat, i ≤ 2 ∧ v = .int .i64 i ∧ Hid (Cs w cb w.heap.size i P M wr)) (fun v _ => 2 - (intOf v).toNat)
  case atStart => exact ⟨0, by omega, rfl, C0⟩
  case round =>
    obtain ⟨i, hi, rfl, hC⟩ := hrel
    clear C0 c2 c3
    rcases (show i = 0 ∨ i = 1 ∨ i = 2 by omega) with rfl | rfl | rfl
    · clear hi
      have ix := idx0 (.pointer (some ⟨a, 0, none⟩)) (.pointer (some ⟨b, 0, none⟩))
      go_wp2_with fail
      go_region_held_law (fun _ => True) (trivial)
        (first
          | (go_at_call 68; refine (HA.out _ (hC.out.kp.trans (Kp.drew _ _))).mono ?_; rintro e z2 ⟨wb, R', rfl, hw, hf, hk⟩; obtain ⟨pa, pb, v2, v3, f2, f3⟩ := hC.out.cells ((Kp.drew _ []).trans hk))
          | fail)
      have C1 := hid (hC.out.one ((Kp.drew _ []).trans hk) hw hf)
      clear hw hf hk v2 v3 f2 f3
      go_wp2
      go_roundw
      case rel => exact ⟨1, by omega, by simp, C1⟩
      case measure => simp [intOf]
    · clear hi
      have ix := idx1 (.pointer (some ⟨a, 0, none⟩)) (.pointer (some ⟨b, 0, none⟩))
      go_wp2_with fail
      go_region_held_law (fun _ => True) (trivial)
        (first
          | (go_at_call 68; refine (HB.out _ (hC.out.kp.trans (Kp.drew _ _))).mono ?_; rintro e z2 ⟨wb, R', rfl, hw, hf, hk⟩; obtain ⟨pa, pb, v2, v3, f2, f3⟩ := hC.out.cells ((Kp.drew _ []).trans hk))
          | fail)
      have C1 := hid (hC.out.two ((Kp.drew _ []).trans hk) hw hf)
      clear hw hf hk v2 v3 f2 f3
      go_wp2
      go_roundw
      case rel => exact ⟨2, by omega, by simp, C1⟩
      case measure => simp [intOf]
    · clear hi
      have F := hid (DN.out wr cb _ hC.out)
      go_wp2
      go_ret
      obtain ⟨cb', R', e1, h1, h2, h3⟩ := F.out
      exact ⟨cb', R', by simpa using e1, h1, h2, h3⟩
end Go.Proofs.Ytcfjlmkeomiiaaa
