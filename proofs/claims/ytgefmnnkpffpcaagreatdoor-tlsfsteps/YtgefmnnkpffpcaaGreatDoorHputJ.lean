/- putIn and takeOut: a free block comes into its list, and goes. -/
import Derived.Test.YtgefmnnkpffpcaaGreatDoorHchangeJ
namespace Go.Proofs.YtgefmnnkpffpcaaGreatDoor
open Go.RowKit

theorem cls_range {z : Int} (h0 : 16 ≤ z) (h1 : z < 1048576) : ∃ k : Nat, cls z = k ∧ k < 32 := by
  have a := lg_lt (z := z) (k := 20) (by omega) (by omega) (by decide)
  have b := lg_ge (z := z) (k := 4) (by omega)
  obtain ⟨q, hq⟩ : ∃ q, q = z / 2 ^ (lg z - 1) := ⟨_, rfl⟩
  have e : cls z = 2 * ((lg z : Int) - 4) + q % 2 := by unfold cls; rw [hq]
  refine ⟨(cls z).toNat, by omega, by omega⟩

theorem Cl.new {w : World} {hb rb mb : Nat} {a z : Int} {t u : TypeId} (h1 : rb < w.heap.size) (h2 : mb < w.heap.size) :
    Cl ((w.alloc (.cells #[.pointer (some ⟨hb, 0, none⟩)] t)).alloc (.cells #[.int .i64 a, .int .i64 z] u)) w.heap.size (w.heap.size + 1) hb rb mb a z := by
  have h := cell2_new (w := w.alloc (.cells #[.pointer (some ⟨hb, 0, none⟩)] t)) (u := .int .i64 a) (v := .int .i64 z) (t := u)
  rw [show (w.alloc (.cells #[.pointer (some ⟨hb, 0, none⟩)] t)).heap.size = w.heap.size + 1 by simp] at h
  exact ⟨cell_past cell_new0, h.1, h.2, by omega, by omega⟩
theorem Cl.three {w : World} {p0 p1 hb rb mb : Nat} {a z : Int} (h : Cl w p0 p1 hb rb mb a z) : w.cell? ⟨p0, 0, none⟩ = some (.pointer (some ⟨hb, 0, none⟩)) ∧ w.cell? ⟨p1, 0, none⟩ = some (.int .i64 a) ∧ w.cell? ⟨p1, 1, none⟩ = some (.int .i64 z) := ⟨h.c0, h.c1, h.c2⟩

set_option maxRecDepth 100000 in
theorem enters102 : ∀ args w, (callFunc 102 args).run Tryz.prog w = .ok (.enter 102 args) w := enters_of Tryz.func102 (by kernel_rfl) rfl
set_option maxRecDepth 100000 in
theorem enters120 : ∀ args w, (callFunc 120 args).run Tryz.prog w = .ok (.enter 120 args) w := enters_of Tryz.func120 (by kernel_rfl) rfl

set_option maxRecDepth 100000 in
set_option maxHeartbeats 1000000 in
theorem takeOut_any (w : World) (hb rb mb pb n : Nat) (g : Mem) (c : Int) (P : Pcs) (a z : Int) (h : Hp w hb rb mb pb n g c P) (hc : c < 1152921504606846976)
    (ha0 : 0 ≤ a) (ha1 : a < 1048576) (hz0 : 16 ≤ z) (hz1 : z < 1048576) :
    Calls Tryz.prog 97 #[.pointer (some ⟨hb, 0, none⟩), .agg #[.int .i64 a, .int .i64 z]] w fun e w' => e = .returned (.tuple #[]) ∧ Went w w' hb rb mb pb n (takeOut n g a z) P c 8 [rb, mb] := by
  obtain ⟨k, hk, hk32⟩ := cls_range hz0 hz1
  have T := hid (show takeOut n g a z = told n (takeOut1 n g a (rd n g (4 + (k : Int) * 4))).1 k (takeOut1 n g a (rd n g (4 + (k : Int) * 4))).2 by unfold takeOut; rw [hk])
  have HK := hid hk
  have hlt := h.lt
  have W1 := hid ((Kp.alloc w (.cells #[.pointer (some ⟨hb, 0, none⟩)] 23) []).trans (Kp.alloc _ (.cells #[.int .i64 a, .int .i64 z] 87) []))
  have C1 := hid (Cl.new (w := w) (hb := hb) (a := a) (z := z) (t := 23) (u := 87) hlt.2.1 hlt.2.2.1)
  have H1 := hid (h.same W1.out)
  have R := hid (h.range (4 + (k : Int) * 4))
  have F := hid (show 0 ≤ (takeOut1 n g a (rd n g (4 + (k : Int) * 4))).2 ∧ (takeOut1 n g a (rd n g (4 + (k : Int) * 4))).2 < 4294967296 by
    unfold takeOut1
    have r1 := h.range (a + 8)
    have r2 := h.range (4 + (k : Int) * 4)
    by_cases hp : rd n g (a + 12) = 0
    · simp only [hp, if_true]; exact r1
    · simp only [hp, if_false]; exact r2)
  clear h hk hlt
  go_enter Tryz.func97, Tryz.ntmps97
  go_wp2_with fail
  go_region_held (fun w' => w'.cell? ⟨w.heap.size, 0, none⟩ = some (.pointer (some ⟨hb, 0, none⟩)) ∧ w'.cell? ⟨w.heap.size + 1, 0, none⟩ = some (.int .i64 a) ∧ w'.cell? ⟨w.heap.size + 1, 1, none⟩ = some (.int .i64 z))
    (first
      | exact (C1.out.keep (Kp.drew _ _)).three
      | exact (C1.out.keep ((Kp.drew _ _).trans hK2.nil)).three
      | exact (C1.out.keep (((Kp.drew _ _).trans hK2.nil).trans hK3)).three)
    (first
      | (go_at_call 72; refine (classOf_any _ z (by omega) (by omega)).mono ?_; rintro e w2 ⟨rfl, hE2⟩; have hK2 := Kp.of_eq hE2; clear hE2; rw [HK.out])
      | (go_at_call 101; refine (change_any _ hb rb mb pb n 120 w.heap.size (w.heap.size + 1) k g _ c P _ (H1.out.same ((Kp.drew _ _).trans hK2)) (by omega) hk32 F.out.1 F.out.2 enters120 (fun w1 c1 hH hle hK => takeOut1_any w1 hb rb mb pb n _ _ g c1 P a z _ hH (by omega) ((C1.out.keep ((Kp.drew _ _).trans hK2.nil)).keep hK) ha0 (by omega))).mono ?_; rintro e w3 ⟨rfl, c3, hc3, hc3', hH3, hK3⟩))
  all_goals
    refine bodyPost_end (results_none rfl _ _ _) rfl ?_
    rw [T.out]
    exact ⟨rfl, c3, by omega, by omega, hH3, (W1.out.nil.trans (Kp.drew _ _)).trans (hK2.nil.trans hK3)⟩

set_option maxRecDepth 100000 in
set_option maxHeartbeats 1000000 in
theorem putIn_any (w : World) (hb rb mb pb n : Nat) (g : Mem) (c : Int) (P : Pcs) (a z : Int) (h : Hp w hb rb mb pb n g c P) (hc : c < 1152921504606846000)
    (ha0 : 0 ≤ a) (ha1 : a < 1048576) (hz0 : 16 ≤ z) (hz1 : z < 1048576) (hz8 : z % 8 = 0) :
    Calls Tryz.prog 61 #[.pointer (some ⟨hb, 0, none⟩), .agg #[.int .i64 a, .int .i64 z]] w fun e w' => e = .returned (.tuple #[]) ∧ Went w w' hb rb mb pb n (putIn n g a z) P c 10 [rb, mb] := by
  obtain ⟨k, hk, hk32⟩ := cls_range hz0 hz1
  obtain ⟨g1, hg1⟩ : ∃ g1, g1 = mark n g a z 1 := ⟨_, rfl⟩
  have T := hid (show putIn n g a z = told n (putIn1 n g1 a (rd n g1 (4 + (k : Int) * 4))) k a by unfold putIn; rw [hk, hg1])
  have HK := hid hk
  have hlt := h.lt
  have W1 := hid ((Kp.alloc w (.cells #[.pointer (some ⟨hb, 0, none⟩)] 23) []).trans (Kp.alloc _ (.cells #[.int .i64 a, .int .i64 z] 87) []))
  have C1 := hid (Cl.new (w := w) (hb := hb) (a := a) (z := z) (t := 23) (u := 87) hlt.2.1 hlt.2.2.1)
  have H1 := hid (h.same W1.out)
  have G1 := hid hg1
  have q0 := C1.out.c0
  have q1 := C1.out.c1
  have q2 := C1.out.c2
  have HZ := hid hz8
  clear h hk hlt hg1 hz8
  go_enter Tryz.func61, Tryz.ntmps61
  go_wp2_with fail
  refine (mark_any _ hb rb mb pb n g c P a z 1 H1.out (by omega) ha0 ha1 (by omega) hz1 HZ.out (Or.inr rfl)).mono ?_
  rintro e w4 ⟨rfl, c4, hc4, hc4', hH4, hK4⟩
  rw [← G1.out] at hH4
  have H4 := hid hH4
  have C4 := hid (C1.out.keep hK4)
  have K4 := hid (W1.out.nil.trans hK4)
  have R := hid (hH4.range (4 + (k : Int) * 4))
  clear hH4 hK4 q0 q1 q2
  go_wp2_with fail
  go_region_held (fun w' => w'.cell? ⟨w.heap.size, 0, none⟩ = some (.pointer (some ⟨hb, 0, none⟩)) ∧ w'.cell? ⟨w.heap.size + 1, 0, none⟩ = some (.int .i64 a) ∧ w'.cell? ⟨w.heap.size + 1, 1, none⟩ = some (.int .i64 z))
    (first
      | exact (C4.out.keep (Kp.drew _ _)).three
      | exact (C4.out.keep ((Kp.drew _ _).trans hK2.nil)).three
      | exact (C4.out.keep (((Kp.drew _ _).trans hK2.nil).trans hK3)).three)
    (first
      | (go_at_call 72; refine (classOf_any _ z (by omega) (by omega)).mono ?_; rintro e w2 ⟨rfl, hE2⟩; have hK2 := Kp.of_eq hE2; clear hE2; rw [HK.out])
      | (go_at_call 101; refine (change_any _ hb rb mb pb n 102 w.heap.size (w.heap.size + 1) k g1 _ c4 P _ (H4.out.same ((Kp.drew _ _).trans hK2)) (by omega) hk32 ha0 (by omega) enters102 (fun w1 c1 hH hle hK => (putIn1_any w1 hb rb mb pb n _ _ g1 c1 P a z _ hH (by omega) ((C4.out.keep ((Kp.drew _ _).trans hK2.nil)).keep hK) ha0 (by omega) R.out.1 R.out.2).mono (by rintro e w' ⟨rfl, c', x1, x2, x3, x4⟩; exact ⟨rfl, c', x1, by omega, x3, x4⟩))).mono ?_; rintro e w3 ⟨rfl, c3, hc3, hc3', hH3, hK3⟩))
  all_goals
    refine bodyPost_end (results_none rfl _ _ _) rfl ?_
    rw [T.out]
    exact ⟨rfl, c3, by omega, by omega, hH3, (K4.out.trans (Kp.drew _ _)).trans (hK2.nil.trans hK3)⟩
end Go.Proofs.YtgefmnnkpffpcaaGreatDoor

/- mayBe, freeAt: the free block that begins there. -/
namespace Go.Proofs.YtgefmnnkpffpcaaGreatDoor
open Go.RowKit

theorem Kp.drewN (w : World) (k : Nat) (rows : List Nat) : Kp w (w.drewN k) rows := ⟨rfl, rfl, rfl, Nat.le_refl _, fun _ _ _ => rfl⟩

set_option maxRecDepth 100000 in
set_option maxHeartbeats 1000000 in
theorem mayBe_any (w : World) (hb rb mb pb n : Nat) (g : Mem) (c : Int) (P : Pcs) (a z : Int) (h : Hp w hb rb mb pb n g c P) (ha : -4611686018427387904 ≤ a) (ha1 : a < 4611686018427387904) :
    Calls Tryz.prog 119 #[.pointer (some ⟨hb, 0, none⟩), .agg #[.int .i64 a, .int .i64 z]] w fun e w' => e = .returned (.bool (mayBe n a z)) ∧ Kp w w' [] := by
  obtain ⟨B, hB⟩ : ∃ B, B = mayBe n a z := ⟨_, rfl⟩
  rw [← hB]
  unfold mayBe at hB
  have hlt := h.lt
  have W1 := hid (Kp.alloc w (.cells #[.int .i64 a, .int .i64 z] 87) [])
  have B1 := Bx.new (w := w) (a := a) (z := z) (t := 87) hlt.2.1 hlt.2.2.1
  have H1 := hid (h.same W1.out)
  have q1 := B1.c1
  have q2 := B1.c2
  have q3 := H1.out.c0cell
  have hn := h.nb
  clear h hlt B1
  by_cases h1 : 112 ≤ a
  · have em : a.tmod 8 = a % 8 := Int.tmod_eq_emod_of_nonneg (by omega)
    have ws : IntKind.i64.wrap ((n : Int) - a) = (n : Int) - a := IntWalk.i64_in _ ⟨by omega, by omega⟩
    by_cases h2 : a % 8 = 0
    · have t2 : (a.tmod 8 == 0) = true := by rw [em, h2]; rfl
      have t2e : (a % 8 == 0) = true := by rw [h2]; rfl
      by_cases h3 : 16 ≤ z
      · by_cases h4 : z ≤ n - a
        · have hb : B = true := by rw [hB]; exact decide_eq_true ⟨h1, h2, h3, h4⟩
          clear hB h2 em; subst hb
          go_enter Tryz.func119, Tryz.ntmps119
          go_wp2_with fail
          refine wp_region_quiet_lit (by kernel_rfl) (by kernel_rfl) ?_
          repeat (first | go_big_quiet_step ((go_at_call 65; exact Calls.quiet_of_same (H1.out.same (Kp.drewN _ _ _)).sized)) | quiet_step ((go_at_call 65; exact Calls.quiet_of_same (H1.out.same (Kp.drewN _ _ _)).sized)))
          refine wpQuiet_nil ?_
          rintro _ ⟨nq, rfl⟩
          go_wp2
          go_ret
          exact ⟨rfl, W1.out.trans (Kp.drewN _ _ _)⟩
        · have hb : B = false := by rw [hB]; exact decide_eq_false (fun h => h4 h.2.2.2)
          clear hB h2 em; subst hb
          go_enter Tryz.func119, Tryz.ntmps119
          go_wp2_with fail
          refine wp_region_quiet_lit (by kernel_rfl) (by kernel_rfl) ?_
          repeat (first | go_big_quiet_step ((go_at_call 65; exact Calls.quiet_of_same (H1.out.same (Kp.drewN _ _ _)).sized)) | quiet_step ((go_at_call 65; exact Calls.quiet_of_same (H1.out.same (Kp.drewN _ _ _)).sized)))
          refine wpQuiet_nil ?_
          rintro _ ⟨nq, rfl⟩
          go_wp2
          go_ret
          exact ⟨ret_b (decide_eq_false (by omega)), W1.out.trans (Kp.drewN _ _ _)⟩
      · have hb : B = false := by rw [hB]; exact decide_eq_false (fun h => h3 h.2.2.1)
        have t3 : decide (16 ≤ z) = false := decide_eq_false h3
        clear hB h2 em; subst hb
        go_enter Tryz.func119, Tryz.ntmps119
        go_wp2_with fail
        refine wp_region_quiet_lit (by kernel_rfl) (by kernel_rfl) ?_
        repeat (first | go_big_quiet_step (fail) | quiet_step (fail))
        refine wpQuiet_nil ?_
        rintro _ ⟨nq, rfl⟩
        go_wp2
        go_ret
        exact ⟨rfl, W1.out.trans (Kp.drewN _ _ _)⟩
    · have t2 : (a.tmod 8 == 0) = false := by rw [em]; simp [h2]
      have t2e : (a % 8 == 0) = false := by simp [h2]
      have hb : B = false := by rw [hB]; exact decide_eq_false (fun h => h2 h.2.1)
      clear hB h2 em; subst hb
      go_enter Tryz.func119, Tryz.ntmps119
      go_wp2_with fail
      refine wp_region_quiet_lit (by kernel_rfl) (by kernel_rfl) ?_
      repeat (first | go_big_quiet_step (fail) | quiet_step (fail))
      refine wpQuiet_nil ?_
      rintro _ ⟨nq, rfl⟩
      go_wp2
      go_ret
      exact ⟨rfl, W1.out.trans (Kp.drewN _ _ _)⟩
  · have t1 : decide (112 ≤ a) = false := decide_eq_false h1
    have hb : B = false := by rw [hB]; exact decide_eq_false (fun h => h1 h.1)
    clear hB; subst hb
    go_enter Tryz.func119, Tryz.ntmps119
    go_wp2_with fail
    refine wp_region_quiet_lit (by kernel_rfl) (by kernel_rfl) ?_
    repeat (first | go_big_quiet_step (fail) | quiet_step (fail))
    refine wpQuiet_nil ?_
    rintro _ ⟨nq, rfl⟩
    go_wp2
    go_ret
    exact ⟨rfl, W1.out.trans (Kp.drewN _ _ _)⟩
end Go.Proofs.YtgefmnnkpffpcaaGreatDoor

/- freeAt: the free block that begins there. -/
namespace Go.Proofs.YtgefmnnkpffpcaaGreatDoor
open Go.RowKit Go.Maps

theorem wf64 {k : Int} (h0 : -9223372036854775808 ≤ k) (h1 : k ≤ 9223372036854775807) : (Lit.int .i64 k).wf = true := by
  have e : IntKind.i64.min = -9223372036854775808 := by decide
  simp [Lit.wf, e]
  omega
theorem Mp.look {w : World} {b : Nat} {P : Pcs} (h : Mp w b P) {k : Int} (h0 : -9223372036854775808 ≤ k) (h1 : k ≤ 9223372036854775807) :
    (Instr.lookup 65 (.map (some b)) (.int .i64 k) true).run Tryz.prog w = .ok (.tuple #[.int .i64 (getP P k), .bool (hasP P k)]) w := by
  obtain ⟨v, ps, hrun, hv⟩ := World.ownsMap.look_ok h keyed3 Tryz.underlying65 (Tryz.zeroValue3 _) (plainElem_int Tryz.underlying3 (wf64 (k := 0) (by decide) (by decide))) (keyOf_int_mk Tryz.underlying3 (wf64 h0 h1))
  rw [dat_at] at hv
  rw [dat_has] at hrun
  obtain ⟨c, rfl, hc, -⟩ := plainElem_int_inv Tryz.underlying3 hv
  simp only [Prod.mk.injEq, DataW.lit.injEq, Lit.int.injEq, true_and] at hc
  rw [hc.1]
  exact hrun

theorem stored2 {w : World} {r : Nat} {u v a b : Value} {t : TypeId} (h : w.heap[r]? = some (.cells #[u, v] t (0, 0))) : ((w.setCell ⟨r, 0, none⟩ a).setCell ⟨r, 1, none⟩ b).heap[r]? = some (.cells #[a, b] t (0, 0)) := by
  have h1 : (w.setCell ⟨r, 0, none⟩ a).heap[r]? = some (.cells #[a, v] t (0, 0)) := by rw [heap_setCell_same w r 0 _ t a h]; rfl
  rw [heap_setCell_same _ r 1 _ t b h1]; rfl
theorem Kp.two (w : World) (r : Nat) (a b : Value) : Kp w ((w.setCell ⟨r, 0, none⟩ a).setCell ⟨r, 1, none⟩ b) [r] := (Kp.setCell w ⟨r, 0, none⟩ a).trans (Kp.setCell _ ⟨r, 1, none⟩ b)
/-- Behind a store into what is newer than all that the heap is. -/
theorem Went.store {w w' : World} {hb rb mb pb n : Nat} {g : Mem} {P : Pcs} {c k : Int} {rows : List Nat} {r : Nat} (a b : Value) (h : Went w w' hb rb mb pb n g P c k rows) (hr : hb < r ∧ rb < r ∧ mb < r ∧ pb < r) (hw : w.heap.size ≤ r) :
    Went w ((w'.setCell ⟨r, 0, none⟩ a).setCell ⟨r, 1, none⟩ b) hb rb mb pb n g P c k rows := by
  obtain ⟨c', h1, h2, h3, h4⟩ := h
  have h5 := Kp.two w' r a b
  exact ⟨c', h1, h2, h3.keep h5 (by simp; omega) (by simp; omega) (by simp; omega) (by simp; omega) (by simp; omega), h4.past h5 (by intro k hk hlt; simp at hk; omega)⟩

/-- What freeAt answers. -/
def freeAns (a : Int) : Option Int → Value
  | some s => .tuple #[.agg #[.int .i64 a, .int .i64 s], .bool true]
  | none => .tuple #[.agg #[.int .i64 0, .int .i64 0], .bool false]

set_option maxRecDepth 100000 in
set_option maxHeartbeats 2000000 in
theorem freeAt_any (w : World) (hb rb mb pb n : Nat) (g : Mem) (c : Int) (P : Pcs) (a : Int) (h : Hp w hb rb mb pb n g c P) (hc : c < 1152921504606846976) (ha0 : 0 ≤ a) (ha1 : a < 8589934592) :
    Calls Tryz.prog 95 #[.pointer (some ⟨hb, 0, none⟩), .int .i64 a] w fun e w' => e = .returned (freeAns a (freeAt n g P a)) ∧ Went w w' hb rb mb pb n g P c 1 [rb] := by
  obtain ⟨x, hx⟩ : ∃ x, x = rd n g a := ⟨_, rfl⟩
  have hx0 := h.range a
  rw [← hx] at hx0
  obtain ⟨A, hA⟩ : ∃ A, A = freeAns a (freeAt n g P a) := ⟨_, rfl⟩
  rw [← hA]
  unfold freeAt at hA
  rw [← hx] at hA
  have R := hid hA
  have HX := hid hx
  have hlt := h.lt
  have W1 := hid (Kp.alloc w (.cells #[.int .i64 0, .int .i64 0] 87) [])
  have B1 := hid (heap_alloc_new w (.cells #[.int .i64 0, .int .i64 0] 87))
  have H1 := hid (h.same W1.out)
  have hlt' : hb < w.heap.size ∧ rb < w.heap.size ∧ mb < w.heap.size ∧ pb < w.heap.size := hlt
  have HL := hid hlt'
  clear h hA hx hlt hlt'
  go_enter Tryz.func95, Tryz.ntmps95
  go_wp2_with fail
  refine (word_any _ hb rb mb pb n g c P a H1.out (by omega) (by omega)).mono ?_
  rintro e w2 ⟨rfl, c2, hc2, hc2', hH2, hK2⟩
  rw [← HX.out]
  have B2 := hid ((hK2.block w.heap.size (by simp) (by simp; have := HL.out; omega)).trans B1.out)
  have K2 := hid (show Kp w w2 [rb] from W1.out.nil.trans hK2)
  have H2 := hid hH2
  have hs2 : w.heap.size + 1 ≤ w2.heap.size := by have := hK2.size; simpa using this
  clear hH2 hK2
  go_wp2_with fail
  obtain ⟨W3, hW3⟩ : ∃ W3, W3 = w2.alloc (.cells #[.int .i64 a, .int .i64 (x - 1)] 87) := ⟨_, rfl⟩
  rw [← hW3]
  have K23 := hid (show Kp w2 W3 [] by rw [hW3]; exact Kp.alloc _ _ _)
  have H3 := hid (H2.out.same K23.out)
  have B3 := hid (show Bx W3 w2.heap.size rb mb a (x - 1) by rw [hW3]; exact Bx.new H2.out.lt.2.1 H2.out.lt.2.2.1)
  have D3 := hid ((K23.out.block w.heap.size (by omega) (by simp)).trans B2.out)
  have K3 := hid (K2.out.trans K23.out.nil)
  clear hW3
  obtain ⟨V, hV⟩ : ∃ V, V = getP P (a + 8) := ⟨_, rfl⟩
  obtain ⟨G, hG⟩ : ∃ G, G = hasP P (a + 8) := ⟨_, rfl⟩
  have LK := hid (show ∀ W, Hp W hb rb mb pb n g c2 P → (Instr.lookup 65 (.map (some pb)) (.int .i64 (a + 8)) true).run Tryz.prog W = .ok (.tuple #[.int .i64 V, .bool G]) W from fun W hW => by
    rw [hV, hG]; exact hW.mp.look (by omega) (by omega))
  have HG := hid hG
  clear hV hG
  have S3 := hid (show ∀ W, Kp W3 W [] → W.cell? ⟨hb, 1, none⟩ = some (.map (some pb)) ∧ W.cell? ⟨w2.heap.size, 0, none⟩ = some (.int .i64 a) ∧ W.cell? ⟨w2.heap.size, 1, none⟩ = some (.int .i64 (x - 1)) ∧ (Instr.lookup 65 (.map (some pb)) (.int .i64 (a + 8)) true).run Tryz.prog W = .ok (.tuple #[.int .i64 V, .bool G]) W from
    fun W hW => ⟨hW.cell H3.out.c1cell (by simp), hW.cell B3.out.c1 (by simp), hW.cell B3.out.c2 (by simp), LK.out W (H3.out.same hW)⟩)
  go_region_held (fun w' => w'.cell? ⟨hb, 1, none⟩ = some (.map (some pb)) ∧ w'.cell? ⟨w2.heap.size, 0, none⟩ = some (.int .i64 a) ∧ w'.cell? ⟨w2.heap.size, 1, none⟩ = some (.int .i64 (x - 1)) ∧ (Instr.lookup 65 (.map (some pb)) (.int .i64 (a + 8)) true).run Tryz.prog w' = .ok (.tuple #[.int .i64 V, .bool G]) w')
    (first
      | exact S3.out _ (Kp.drew _ _)
      | exact S3.out _ ((Kp.drew _ _).trans hK4))
    ((go_at_call 100; refine (piece_any _ a (x - 1) (by omega) (by omega)).mono ?_; rintro e w4 ⟨rfl, hK4⟩))
  have K4 := hid (show Kp W3 w4 [] from (Kp.drew _ _).trans hK4)
  have H4 := hid (H3.out.same K4.out)
  have B4 := hid (B3.out.keep K4.out.nil)
  have D4 := hid ((K4.out.block w.heap.size (lt_of_block D3.out) (by simp)).trans D3.out)
  have K5 := hid (K3.out.trans K4.out.nil)
  clear hK4
  have u1 := cell_two0 D4.out
  have u2 := cell_two1 D4.out
  have u3 := free_two (i := 0) D4.out
  have u4 := free_two (i := 1) D4.out
  have WT := hid (show Went w w4 hb rb mb pb n g P c 1 [rb] from ⟨c2, hc2, hc2', H4.out, K5.out⟩)
  have s0 := hid (fun (w' : World) (hk : w'.heap[w.heap.size]? = some (.cells #[.int .i64 0, .int .i64 0] 87 (0, 0))) => And.intro (cell_two0 (stored2 (a := .int .i64 0) (b := .int .i64 0) hk)) (cell_two1 (stored2 (a := .int .i64 0) (b := .int .i64 0) hk)))
  cases G with
  | true =>
    have E := hid (show A = freeAns a none by rw [R.out, ← HG.out]; rfl)
    go_wp2_with fail
    obtain ⟨v1, v2⟩ := s0.out w4 D4.out
    refine bodyPost_ret (v := .tuple #[.agg #[.int .i64 0, .int .i64 0], .bool false]) (by simp [results, Tryz.results95, go_sem, v1, v2]) rfl ⟨by rw [E.out]; rfl, WT.out.store _ _ HL.out (Nat.le_refl _)⟩
  | false =>
    by_cases h8 : x % 8 = 1
    · have t8 : (x % 8 != 1) = false := by rw [h8]; rfl
      have q1 := B4.out.c1
      have q2 := B4.out.c2
      cases hM : mayBe n a (x - 1) with
      | true =>
        have HM := hid hM
        have E := hid (show A = freeAns a (some (x - 1)) by rw [R.out, ← HG.out, h8, hM]; rfl)
        clear hM h8
        go_wp2_with fail
        refine (mayBe_any w4 hb rb mb pb n g c2 P a (x - 1) H4.out (by omega) (by omega)).mono ?_
        rintro e w5 ⟨rfl, hK5⟩
        rw [HM.out]
        have B5 := hid (B4.out.keep hK5.nil)
        have D5 := hid ((hK5.block w.heap.size (lt_of_block D4.out) (by simp)).trans D4.out)
        have W5 := hid (show Went w w5 hb rb mb pb n g P c 1 [rb] from ⟨c2, hc2, hc2', H4.out.same hK5, K5.out.trans hK5.nil⟩)
        clear hK5 u1 u2 u3 u4 q1 q2
        have u1 := cell_two0 D5.out
        have u2 := cell_two1 D5.out
        have u3 := free_two (i := 0) D5.out
        have u4 := free_two (i := 1) D5.out
        have q1 := B5.out.c1
        have q2 := B5.out.c2
        go_wp2_with fail
        have v1 := cell_two0 (stored2 (a := .int .i64 a) (b := .int .i64 (x - 1)) D5.out)
        have v2 := cell_two1 (stored2 (a := .int .i64 a) (b := .int .i64 (x - 1)) D5.out)
        refine bodyPost_ret (v := .tuple #[.agg #[.int .i64 a, .int .i64 (x - 1)], .bool true]) (by simp [results, Tryz.results95, go_sem, v1, v2]) rfl ⟨by rw [E.out]; rfl, W5.out.store _ _ HL.out (Nat.le_refl _)⟩
      | false =>
        have HM := hid hM
        have E := hid (show A = freeAns a none by rw [R.out, ← HG.out, h8, hM]; rfl)
        clear hM h8
        go_wp2_with fail
        refine (mayBe_any w4 hb rb mb pb n g c2 P a (x - 1) H4.out (by omega) (by omega)).mono ?_
        rintro e w5 ⟨rfl, hK5⟩
        rw [HM.out]
        have B5 := hid (B4.out.keep hK5.nil)
        have D5 := hid ((hK5.block w.heap.size (lt_of_block D4.out) (by simp)).trans D4.out)
        have W5 := hid (show Went w w5 hb rb mb pb n g P c 1 [rb] from ⟨c2, hc2, hc2', H4.out.same hK5, K5.out.trans hK5.nil⟩)
        clear hK5 u1 u2 u3 u4 q1 q2
        have u1 := cell_two0 D5.out
        have u2 := cell_two1 D5.out
        have u3 := free_two (i := 0) D5.out
        have u4 := free_two (i := 1) D5.out
        go_wp2_with fail
        obtain ⟨v1, v2⟩ := s0.out w5 D5.out
        refine bodyPost_ret (v := .tuple #[.agg #[.int .i64 0, .int .i64 0], .bool false]) (by simp [results, Tryz.results95, go_sem, v1, v2]) rfl ⟨by rw [E.out]; rfl, W5.out.store _ _ HL.out (Nat.le_refl _)⟩
    · have t8 : (x % 8 != 1) = true := by simp [h8]
      have E := hid (show A = freeAns a none by rw [R.out, ← HG.out]; simp [h8])
      clear h8
      go_wp2_with fail
      obtain ⟨v1, v2⟩ := s0.out w4 D4.out
      refine bodyPost_ret (v := .tuple #[.agg #[.int .i64 0, .int .i64 0], .bool false]) (by simp [results, Tryz.results95, go_sem, v1, v2]) rfl ⟨by rw [E.out]; rfl, WT.out.store _ _ HL.out (Nat.le_refl _)⟩
end Go.Proofs.YtgefmnnkpffpcaaGreatDoor
