/- freeAt: the free block that begins there. -/
import Derived.Test.YtgefmnnkpffpcaaGreatDoorHputJ
namespace Go.Proofs.YtgefmnnkpffpcaaGreatDoor
open Go.RowKit Go.Maps

theorem wf64 {k : Int} (h0 : -9223372036854775808 ≤ k) (h1 : k ≤ 9223372036854775807) : (Lit.int .i64 k).wf = true := by
  have e : IntKind.i64.min = -9223372036854775808 := by decide
  simp [Lit.wf, e]
  omega
theorem Mp.look {w : World} {b : Nat} {P : Pcs} (h : Mp w b P) {k : Int} (h0 : -9223372036854775808 ≤ k) (h1 : k ≤ 9223372036854775807) :
    (Instr.lookup 65 (.map (some b)) (.int .i64 k) true).run Tryz.prog w = .ok (.tuple #[.int .i64 (getP P k), .bool (hasP P k)]) w := by
  obtain ⟨v, ps, hrun, hv⟩ := World.ownsMap.look_ok h keyed3 Tryz.underlying65 (Tryz.zeroValue3 _) (plainElem_int Tryz.underlying3 (wf64 (k := 0) (by decide) (by decide))) (keyOf_int_mk Tryz.underlying3 (wf64 h0 h1))
  rw [dat_at] at hv
  rw [dat_has] at hrun
  obtain ⟨c, rfl, hc, -⟩ := plainElem_int_inv Tryz.underlying3 hv
  simp only [Prod.mk.injEq, DataW.lit.injEq, Lit.int.injEq, true_and] at hc
  rw [hc.1]
  exact hrun

theorem stored2 {w : World} {r : Nat} {u v a b : Value} {t : TypeId} (h : w.heap[r]? = some (.cells #[u, v] t (0, 0))) : ((w.setCell ⟨r, 0, none⟩ a).setCell ⟨r, 1, none⟩ b).heap[r]? = some (.cells #[a, b] t (0, 0)) := by
  have h1 : (w.setCell ⟨r, 0, none⟩ a).heap[r]? = some (.cells #[a, v] t (0, 0)) := by rw [heap_setCell_same w r 0 _ t a h]; rfl
  rw [heap_setCell_same _ r 1 _ t b h1]; rfl
theorem Kp.two (w : World) (r : Nat) (a b : Value) : Kp w ((w.setCell ⟨r, 0, none⟩ a).setCell ⟨r, 1, none⟩ b) [r] := (Kp.setCell w ⟨r, 0, none⟩ a).trans (Kp.setCell _ ⟨r, 1, none⟩ b)
/-- Behind a store into what is newer than all that the heap is. -/
theorem Went.store {w w' : World} {hb rb mb pb n : Nat} {g : Mem} {P : Pcs} {c k : Int} {rows : List Nat} {r : Nat} (a b : Value) (h : Went w w' hb rb mb pb n g P c k rows) (hr : hb < r ∧ rb < r ∧ mb < r ∧ pb < r) (hw : w.heap.size ≤ r) :
    Went w ((w'.setCell ⟨r, 0, none⟩ a).setCell ⟨r, 1, none⟩ b) hb rb mb pb n g P c k rows := by
  obtain ⟨c', h1, h2, h3, h4⟩ := h
  have h5 := Kp.two w' r a b
  exact ⟨c', h1, h2, h3.keep h5 (by simp; omega) (by simp; omega) (by simp; omega) (by simp; omega) (by simp; omega), h4.past h5 (by intro k hk hlt; simp at hk; omega)⟩

/-- What freeAt answers. -/
def freeAns (a : Int) : Option Int → Value
  | some s => .tuple #[.agg #[.int .i64 a, .int .i64 s], .bool true]
  | none => .tuple #[.agg #[.int .i64 0, .int .i64 0], .bool false]

set_option maxRecDepth 100000 in
set_option maxHeartbeats 2000000 in
theorem freeAt_any (w : World) (hb rb mb pb n : Nat) (g : Mem) (c : Int) (P : Pcs) (a : Int) (h : Hp w hb rb mb pb n g c P) (hc : c < 1152921504606846976) (ha0 : 0 ≤ a) (ha1 : a < 8589934592) :
    Calls Tryz.prog 95 #[.pointer (some ⟨hb, 0, none⟩), .int .i64 a] w fun e w' => e = .returned (freeAns a (freeAt n g P a)) ∧ Went w w' hb rb mb pb n g P c 1 [rb] := by
  obtain ⟨x, hx⟩ : ∃ x, x = rd n g a := ⟨_, rfl⟩
  have hx0 := h.range a
  rw [← hx] at hx0
  obtain ⟨A, hA⟩ : ∃ A, A = freeAns a (freeAt n g P a) := ⟨_, rfl⟩
  rw [← hA]
  unfold freeAt at hA
  rw [← hx] at hA
  have R := hid hA
  have HX := hid hx
  have hlt := h.lt
  have W1 := hid (Kp.alloc w (.cells #[.int .i64 0, .int .i64 0] 87) [])
  have B1 := hid (heap_alloc_new w (.cells #[.int .i64 0, .int .i64 0] 87))
  have H1 := hid (h.same W1.out)
  have hlt' : hb < w.heap.size ∧ rb < w.heap.size ∧ mb < w.heap.size ∧ pb < w.heap.size := hlt
  have HL := hid hlt'
  clear h hA hx hlt hlt'
  go_enter Tryz.func95, Tryz.ntmps95
  go_wp2_with fail
  refine (word_any _ hb rb mb pb n g c P a H1.out (by omega) (by omega)).mono ?_
  rintro e w2 ⟨rfl, c2, hc2, hc2', hH2, hK2⟩
  rw [← HX.out]
  have B2 := hid ((hK2.block w.heap.size (by simp) (by simp; have := HL.out; omega)).trans B1.out)
  have K2 := hid (show Kp w w2 [rb] from W1.out.nil.trans hK2)
  have H2 := hid hH2
  have hs2 : w.heap.size + 1 ≤ w2.heap.size := by have := hK2.size; simpa using this
  clear hH2 hK2
  go_wp2_with fail
  obtain ⟨W3, hW3⟩ : ∃ W3, W3 = w2.alloc (.cells #[.int .i64 a, .int .i64 (x - 1)] 87) := ⟨_, rfl⟩
  rw [← hW3]
  have K23 := hid (show Kp w2 W3 [] by rw [hW3]; exact Kp.alloc _ _ _)
  have H3 := hid (H2.out.same K23.out)
  have B3 := hid (show Bx W3 w2.heap.size rb mb a (x - 1) by rw [hW3]; exact Bx.new H2.out.lt.2.1 H2.out.lt.2.2.1)
  have D3 := hid ((K23.out.block w.heap.size (by omega) (by simp)).trans B2.out)
  have K3 := hid (K2.out.trans K23.out.nil)
  clear hW3
  obtain ⟨V, hV⟩ : ∃ V, V = getP P (a + 8) := ⟨_, rfl⟩
  obtain ⟨G, hG⟩ : ∃ G, G = hasP P (a + 8) := ⟨_, rfl⟩
  have LK := hid (show ∀ W, Hp W hb rb mb pb n g c2 P → (Instr.lookup 65 (.map (some pb)) (.int .i64 (a + 8)) true).run Tryz.prog W = .ok (.tuple #[.int .i64 V, .bool G]) W from fun W hW => by
    rw [hV, hG]; exact hW.mp.look (by omega) (by omega))
  have HG := hid hG
  clear hV hG
  have S3 := hid (show ∀ W, Kp W3 W [] → W.cell? ⟨hb, 1, none⟩ = some (.map (some pb)) ∧ W.cell? ⟨w2.heap.size, 0, none⟩ = some (.int .i64 a) ∧ W.cell? ⟨w2.heap.size, 1, none⟩ = some (.int .i64 (x - 1)) ∧ (Instr.lookup 65 (.map (some pb)) (.int .i64 (a + 8)) true).run Tryz.prog W = .ok (.tuple #[.int .i64 V, .bool G]) W from
    fun W hW => ⟨hW.cell H3.out.c1cell (by simp), hW.cell B3.out.c1 (by simp), hW.cell B3.out.c2 (by simp), LK.out W (H3.out.same hW)⟩)
  go_region_held (fun w' => w'.cell? ⟨hb, 1, none⟩ = some (.map (some pb)) ∧ w'.cell? ⟨w2.heap.size, 0, none⟩ = some (.int .i64 a) ∧ w'.cell? ⟨w2.heap.size, 1, none⟩ = some (.int .i64 (x - 1)) ∧ (Instr.lookup 65 (.map (some pb)) (.int .i64 (a + 8)) true).run Tryz.prog w' = .ok (.tuple #[.int .i64 V, .bool G]) w')
    (first
      | exact S3.out _ (Kp.drew _ _)
      | exact S3.out _ ((Kp.drew _ _).trans hK4))
    ((go_at_call 100; refine (piece_any _ a (x - 1) (by omega) (by omega)).mono ?_; rintro e w4 ⟨rfl, hK4⟩))
  have K4 := hid (show Kp W3 w4 [] from (Kp.drew _ _).trans hK4)
  have H4 := hid (H3.out.same K4.out)
  have B4 := hid (B3.out.keep K4.out.nil)
  have D4 := hid ((K4.out.block w.heap.size (lt_of_block D3.out) (by simp)).trans D3.out)
  have K5 := hid (K3.out.trans K4.out.nil)
  clear hK4
  have u1 := cell_two0 D4.out
  have u2 := cell_two1 D4.out
  have u3 := free_two (i := 0) D4.out
  have u4 := free_two (i := 1) D4.out
  have WT := hid (show Went w w4 hb rb mb pb n g P c 1 [rb] from ⟨c2, hc2, hc2', H4.out, K5.out⟩)
  have s0 := hid (fun (w' : World) (hk : w'.heap[w.heap.size]? = some (.cells #[.int .i64 0, .int .i64 0] 87 (0, 0))) => And.intro (cell_two0 (stored2 (a := .int .i64 0) (b := .int .i64 0) hk)) (cell_two1 (stored2 (a := .int .i64 0) (b := .int .i64 0) hk)))
  cases G with
  | true =>
    have E := hid (show A = freeAns a none by rw [R.out, ← HG.out]; rfl)
    go_wp2_with fail
    obtain ⟨v1, v2⟩ := s0.out w4 D4.out
    refine bodyPost_ret (v := .tuple #[.agg #[.int .i64 0, .int .i64 0], .bool false]) (by simp [results, Tryz.results95, go_sem, v1, v2]) rfl ⟨by rw [E.out]; rfl, WT.out.store _ _ HL.out (Nat.le_refl _)⟩
  | false =>
    by_cases h8 : x % 8 = 1
    · have t8 : (x % 8 != 1) = false := by rw [h8]; rfl
      have q1 := B4.out.c1
      have q2 := B4.out.c2
      cases hM : mayBe n a (x - 1) with
      | true =>
        have HM := hid hM
        have E := hid (show A = freeAns a (some (x - 1)) by rw [R.out, ← HG.out, h8, hM]; rfl)
        clear hM h8
        go_wp2_with fail
        refine (mayBe_any w4 hb rb mb pb n g c2 P a (x - 1) H4.out (by omega) (by omega)).mono ?_
        rintro e w5 ⟨rfl, hK5⟩
        rw [HM.out]
        have B5 := hid (B4.out.keep hK5.nil)
        have D5 := hid ((hK5.block w.heap.size (lt_of_block D4.out) (by simp)).trans D4.out)
        have W5 := hid (show Went w w5 hb rb mb pb n g P c 1 [rb] from ⟨c2, hc2, hc2', H4.out.same hK5, K5.out.trans hK5.nil⟩)
        clear hK5 u1 u2 u3 u4 q1 q2
        have u1 := cell_two0 D5.out
        have u2 := cell_two1 D5.out
        have u3 := free_two (i := 0) D5.out
        have u4 := free_two (i := 1) D5.out
        have q1 := B5.out.c1
        have q2 := B5.out.c2
        go_wp2_with fail
        have v1 := cell_two0 (stored2 (a := .int .i64 a) (b := .int .i64 (x - 1)) D5.out)
        have v2 := cell_two1 (stored2 (a := .int .i64 a) (b := .int .i64 (x - 1)) D5.out)
        refine bodyPost_ret (v := .tuple #[.agg #[.int .i64 a, .int .i64 (x - 1)], .bool true]) (by simp [results, Tryz.results95, go_sem, v1, v2]) rfl ⟨by rw [E.out]; rfl, W5.out.store _ _ HL.out (Nat.le_refl _)⟩
      | false =>
        have HM := hid hM
        have E := hid (show A = freeAns a none by rw [R.out, ← HG.out, h8, hM]; rfl)
        clear hM h8
        go_wp2_with fail
        refine (mayBe_any w4 hb rb mb pb n g c2 P a (x - 1) H4.out (by omega) (by omega)).mono ?_
        rintro e w5 ⟨rfl, hK5⟩
        rw [HM.out]
        have B5 := hid (B4.out.keep hK5.nil)
        have D5 := hid ((hK5.block w.heap.size (lt_of_block D4.out) (by simp)).trans D4.out)
        have W5 := hid (show Went w w5 hb rb mb pb n g P c 1 [rb] from ⟨c2, hc2, hc2', H4.out.same hK5, K5.out.trans hK5.nil⟩)
        clear hK5 u1 u2 u3 u4 q1 q2
        have u1 := cell_two0 D5.out
        have u2 := cell_two1 D5.out
        have u3 := free_two (i := 0) D5.out
        have u4 := free_two (i := 1) D5.out
        go_wp2_with fail
        obtain ⟨v1, v2⟩ := s0.out w5 D5.out
        refine bodyPost_ret (v := .tuple #[.agg #[.int .i64 0, .int .i64 0], .bool false]) (by simp [results, Tryz.results95, go_sem, v1, v2]) rfl ⟨by rw [E.out]; rfl, W5.out.store _ _ HL.out (Nat.le_refl _)⟩
    · have t8 : (x % 8 != 1) = true := by simp [h8]
      have E := hid (show A = freeAns a none by rw [R.out, ← HG.out]; simp [h8])
      clear h8
      go_wp2_with fail
      obtain ⟨v1, v2⟩ := s0.out w4 D4.out
      refine bodyPost_ret (v := .tuple #[.agg #[.int .i64 0, .int .i64 0], .bool false]) (by simp [results, Tryz.results95, go_sem, v1, v2]) rfl ⟨by rw [E.out]; rfl, WT.out.store _ _ HL.out (Nat.le_refl _)⟩
end Go.Proofs.YtgefmnnkpffpcaaGreatDoor
