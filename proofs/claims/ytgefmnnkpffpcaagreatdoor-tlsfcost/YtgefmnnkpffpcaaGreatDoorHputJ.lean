/- putIn and takeOut: a free block comes into its list, and goes. -/
import Derived.Test.YtgefmnnkpffpcaaGreatDoorHchangeJ
namespace Go.Proofs.YtgefmnnkpffpcaaGreatDoor
open Go.RowKit

theorem cls_range {z : Int} (h0 : 16 ≤ z) (h1 : z < 1048576) : ∃ k : Nat, cls z = k ∧ k < 32 := by
  have a := lg_lt (z := z) (k := 20) (by omega) (by omega) (by decide)
  have b := lg_ge (z := z) (k := 4) (by omega)
  obtain ⟨q, hq⟩ : ∃ q, q = z / 2 ^ (lg z - 1) := ⟨_, rfl⟩
  have e : cls z = 2 * ((lg z : Int) - 4) + q % 2 := by unfold cls; rw [hq]
  refine ⟨(cls z).toNat, by omega, by omega⟩

theorem Cl.new {w : World} {hb rb mb : Nat} {a z : Int} {t u : TypeId} (h1 : rb < w.heap.size) (h2 : mb < w.heap.size) :
    Cl ((w.alloc (.cells #[.pointer (some ⟨hb, 0, none⟩)] t)).alloc (.cells #[.int .i64 a, .int .i64 z] u)) w.heap.size (w.heap.size + 1) hb rb mb a z := by
  have h := cell2_new (w := w.alloc (.cells #[.pointer (some ⟨hb, 0, none⟩)] t)) (u := .int .i64 a) (v := .int .i64 z) (t := u)
  rw [show (w.alloc (.cells #[.pointer (some ⟨hb, 0, none⟩)] t)).heap.size = w.heap.size + 1 by simp] at h
  exact ⟨cell_past cell_new0, h.1, h.2, by omega, by omega⟩
theorem Cl.three {w : World} {p0 p1 hb rb mb : Nat} {a z : Int} (h : Cl w p0 p1 hb rb mb a z) : w.cell? ⟨p0, 0, none⟩ = some (.pointer (some ⟨hb, 0, none⟩)) ∧ w.cell? ⟨p1, 0, none⟩ = some (.int .i64 a) ∧ w.cell? ⟨p1, 1, none⟩ = some (.int .i64 z) := ⟨h.c0, h.c1, h.c2⟩

set_option maxRecDepth 100000 in
theorem enters102 : ∀ args w, (callFunc 102 args).run Tryz.prog w = .ok (.enter 102 args) w := enters_of Tryz.func102 (by kernel_rfl) rfl
set_option maxRecDepth 100000 in
theorem enters120 : ∀ args w, (callFunc 120 args).run Tryz.prog w = .ok (.enter 120 args) w := enters_of Tryz.func120 (by kernel_rfl) rfl

set_option maxRecDepth 100000 in
set_option maxHeartbeats 1000000 in
theorem takeOut_any (w : World) (hb rb mb pb n : Nat) (g : Mem) (c : Int) (P : Pcs) (a z : Int) (h : Hp w hb rb mb pb n g c P) (hc : c < 1152921504606846976)
    (ha0 : 0 ≤ a) (ha1 : a < 1048576) (hz0 : 16 ≤ z) (hz1 : z < 1048576) :
    Calls Tryz.prog 97 #[.pointer (some ⟨hb, 0, none⟩), .agg #[.int .i64 a, .int .i64 z]] w fun e w' => e = .returned (.tuple #[]) ∧ Went w w' hb rb mb pb n (takeOut n g a z) P c 8 [rb, mb] := by
  obtain ⟨k, hk, hk32⟩ := cls_range hz0 hz1
  have T := hid (show takeOut n g a z = told n (takeOut1 n g a (rd n g (4 + (k : Int) * 4))).1 k (takeOut1 n g a (rd n g (4 + (k : Int) * 4))).2 by unfold takeOut; rw [hk])
  have HK := hid hk
  have hlt := h.lt
  have W1 := hid ((Kp.alloc w (.cells #[.pointer (some ⟨hb, 0, none⟩)] 23) []).trans (Kp.alloc _ (.cells #[.int .i64 a, .int .i64 z] 87) []))
  have C1 := hid (Cl.new (w := w) (hb := hb) (a := a) (z := z) (t := 23) (u := 87) hlt.2.1 hlt.2.2.1)
  have H1 := hid (h.same W1.out)
  have R := hid (h.range (4 + (k : Int) * 4))
  have F := hid (show 0 ≤ (takeOut1 n g a (rd n g (4 + (k : Int) * 4))).2 ∧ (takeOut1 n g a (rd n g (4 + (k : Int) * 4))).2 < 4294967296 by
    unfold takeOut1
    have r1 := h.range (a + 8)
    have r2 := h.range (4 + (k : Int) * 4)
    by_cases hp : rd n g (a + 12) = 0
    · simp only [hp, if_true]; exact r1
    · simp only [hp, if_false]; exact r2)
  clear h hk hlt
  go_enter Tryz.func97, Tryz.ntmps97
  go_wp2_with fail
  go_region_held (fun w' => w'.cell? ⟨w.heap.size, 0, none⟩ = some (.pointer (some ⟨hb, 0, none⟩)) ∧ w'.cell? ⟨w.heap.size + 1, 0, none⟩ = some (.int .i64 a) ∧ w'.cell? ⟨w.heap.size + 1, 1, none⟩ = some (.int .i64 z))
    (first
      | exact (C1.out.keep (Kp.drew _ _)).three
      | exact (C1.out.keep ((Kp.drew _ _).trans hK2.nil)).three
      | exact (C1.out.keep (((Kp.drew _ _).trans hK2.nil).trans hK3)).three)
    (first
      | (go_at_call 72; refine (classOf_any _ z (by omega) (by omega)).mono ?_; rintro e w2 ⟨rfl, hE2⟩; have hK2 := Kp.of_eq hE2; clear hE2; rw [HK.out])
      | (go_at_call 101; refine (change_any _ hb rb mb pb n 120 w.heap.size (w.heap.size + 1) k g _ c P _ (H1.out.same ((Kp.drew _ _).trans hK2)) (by omega) hk32 F.out.1 F.out.2 enters120 (fun w1 c1 hH hle hK => takeOut1_any w1 hb rb mb pb n _ _ g c1 P a z _ hH (by omega) ((C1.out.keep ((Kp.drew _ _).trans hK2.nil)).keep hK) ha0 (by omega))).mono ?_; rintro e w3 ⟨rfl, c3, hc3, hc3', hH3, hK3⟩))
  all_goals
    refine bodyPost_end (results_none rfl _ _ _) rfl ?_
    rw [T.out]
    exact ⟨rfl, c3, by omega, by omega, hH3, (W1.out.nil.trans (Kp.drew _ _)).trans (hK2.nil.trans hK3)⟩

set_option maxRecDepth 100000 in
set_option maxHeartbeats 1000000 in
theorem putIn_any (w : World) (hb rb mb pb n : Nat) (g : Mem) (c : Int) (P : Pcs) (a z : Int) (h : Hp w hb rb mb pb n g c P) (hc : c < 1152921504606846000)
    (ha0 : 0 ≤ a) (ha1 : a < 1048576) (hz0 : 16 ≤ z) (hz1 : z < 1048576) (hz8 : z % 8 = 0) :
    Calls Tryz.prog 61 #[.pointer (some ⟨hb, 0, none⟩), .agg #[.int .i64 a, .int .i64 z]] w fun e w' => e = .returned (.tuple #[]) ∧ Went w w' hb rb mb pb n (putIn n g a z) P c 10 [rb, mb] := by
  obtain ⟨k, hk, hk32⟩ := cls_range hz0 hz1
  obtain ⟨g1, hg1⟩ : ∃ g1, g1 = mark n g a z 1 := ⟨_, rfl⟩
  have T := hid (show putIn n g a z = told n (putIn1 n g1 a (rd n g1 (4 + (k : Int) * 4))) k a by unfold putIn; rw [hk, hg1])
  have HK := hid hk
  have hlt := h.lt
  have W1 := hid ((Kp.alloc w (.cells #[.pointer (some ⟨hb, 0, none⟩)] 23) []).trans (Kp.alloc _ (.cells #[.int .i64 a, .int .i64 z] 87) []))
  have C1 := hid (Cl.new (w := w) (hb := hb) (a := a) (z := z) (t := 23) (u := 87) hlt.2.1 hlt.2.2.1)
  have H1 := hid (h.same W1.out)
  have G1 := hid hg1
  have q0 := C1.out.c0
  have q1 := C1.out.c1
  have q2 := C1.out.c2
  have HZ := hid hz8
  clear h hk hlt hg1 hz8
  go_enter Tryz.func61, Tryz.ntmps61
  go_wp2_with fail
  refine (mark_any _ hb rb mb pb n g c P a z 1 H1.out (by omega) ha0 ha1 (by omega) hz1 HZ.out (Or.inr rfl)).mono ?_
  rintro e w4 ⟨rfl, c4, hc4, hc4', hH4, hK4⟩
  rw [← G1.out] at hH4
  have H4 := hid hH4
  have C4 := hid (C1.out.keep hK4)
  have K4 := hid (W1.out.nil.trans hK4)
  have R := hid (hH4.range (4 + (k : Int) * 4))
  clear hH4 hK4 q0 q1 q2
  go_wp2_with fail
  go_region_held (fun w' => w'.cell? ⟨w.heap.size, 0, none⟩ = some (.pointer (some ⟨hb, 0, none⟩)) ∧ w'.cell? ⟨w.heap.size + 1, 0, none⟩ = some (.int .i64 a) ∧ w'.cell? ⟨w.heap.size + 1, 1, none⟩ = some (.int .i64 z))
    (first
      | exact (C4.out.keep (Kp.drew _ _)).three
      | exact (C4.out.keep ((Kp.drew _ _).trans hK2.nil)).three
      | exact (C4.out.keep (((Kp.drew _ _).trans hK2.nil).trans hK3)).three)
    (first
      | (go_at_call 72; refine (classOf_any _ z (by omega) (by omega)).mono ?_; rintro e w2 ⟨rfl, hE2⟩; have hK2 := Kp.of_eq hE2; clear hE2; rw [HK.out])
      | (go_at_call 101; refine (change_any _ hb rb mb pb n 102 w.heap.size (w.heap.size + 1) k g1 _ c4 P _ (H4.out.same ((Kp.drew _ _).trans hK2)) (by omega) hk32 ha0 (by omega) enters102 (fun w1 c1 hH hle hK => (putIn1_any w1 hb rb mb pb n _ _ g1 c1 P a z _ hH (by omega) ((C4.out.keep ((Kp.drew _ _).trans hK2.nil)).keep hK) ha0 (by omega) R.out.1 R.out.2).mono (by rintro e w' ⟨rfl, c', x1, x2, x3, x4⟩; exact ⟨rfl, c', x1, by omega, x3, x4⟩))).mono ?_; rintro e w3 ⟨rfl, c3, hc3, hc3', hH3, hK3⟩))
  all_goals
    refine bodyPost_end (results_none rfl _ _ _) rfl ?_
    rw [T.out]
    exact ⟨rfl, c3, by omega, by omega, hH3, (K4.out.trans (Kp.drew _ _)).trans (hK2.nil.trans hK3)⟩
end Go.Proofs.YtgefmnnkpffpcaaGreatDoor

/- mayBe, freeAt: the free block that begins there. -/
namespace Go.Proofs.YtgefmnnkpffpcaaGreatDoor
open Go.RowKit

theorem Kp.drewN (w : World) (k : Nat) (rows : List Nat) : Kp w (w.drewN k) rows := ⟨rfl, rfl, rfl, Nat.le_refl _, fun _ _ _ => rfl⟩

set_option maxRecDepth 100000 in
set_option maxHeartbeats 1000000 in
theorem mayBe_any (w : World) (hb rb mb pb n : Nat) (g : Mem) (c : Int) (P : Pcs) (a z : Int) (h : Hp w hb rb mb pb n g c P) (ha : -4611686018427387904 ≤ a) (ha1 : a < 4611686018427387904) :
    Calls Tryz.prog 119 #[.pointer (some ⟨hb, 0, none⟩), .agg #[.int .i64 a, .int .i64 z]] w fun e w' => e = .returned (.bool (mayBe n a z)) ∧ Kp w w' [] := by
  obtain ⟨B, hB⟩ : ∃ B, B = mayBe n a z := ⟨_, rfl⟩
  rw [← hB]
  unfold mayBe at hB
  have hlt := h.lt
  have W1 := hid (Kp.alloc w (.cells #[.int .i64 a, .int .i64 z] 87) [])
  have B1 := Bx.new (w := w) (a := a) (z := z) (t := 87) hlt.2.1 hlt.2.2.1
  have H1 := hid (h.same W1.out)
  have q1 := B1.c1
  have q2 := B1.c2
  have q3 := H1.out.c0cell
  have hn := h.nb
  clear h hlt B1
  by_cases h1 : 112 ≤ a
  · have em : a.tmod 8 = a % 8 := Int.tmod_eq_emod_of_nonneg (by omega)
    have ws : IntKind.i64.wrap ((n : Int) - a) = (n : Int) - a := IntWalk.i64_in _ ⟨by omega, by omega⟩
    by_cases h2 : a % 8 = 0
    · have t2 : (a.tmod 8 == 0) = true := by rw [em, h2]; rfl
      have t2e : (a % 8 == 0) = true := by rw [h2]; rfl
      by_cases h3 : 16 ≤ z
      · by_cases h4 : z ≤ n - a
        · have hb : B = true := by rw [hB]; exact decide_eq_true ⟨h1, h2, h3, h4⟩
          clear hB h2 em; subst hb
          go_enter Tryz.func119, Tryz.ntmps119
          go_wp2_with fail
          refine wp_region_quiet_lit (by kernel_rfl) (by kernel_rfl) ?_
          repeat (first | go_big_quiet_step ((go_at_call 65; exact Calls.quiet_of_same (H1.out.same (Kp.drewN _ _ _)).sized)) | quiet_step ((go_at_call 65; exact Calls.quiet_of_same (H1.out.same (Kp.drewN _ _ _)).sized)))
          refine wpQuiet_nil ?_
          rintro _ ⟨nq, rfl⟩
          go_wp2
          go_ret
          exact ⟨rfl, W1.out.trans (Kp.drewN _ _ _)⟩
        · have hb : B = false := by rw [hB]; exact decide_eq_false (fun h => h4 h.2.2.2)
          clear hB h2 em; subst hb
          go_enter Tryz.func119, Tryz.ntmps119
          go_wp2_with fail
          refine wp_region_quiet_lit (by kernel_rfl) (by kernel_rfl) ?_
          repeat (first | go_big_quiet_step ((go_at_call 65; exact Calls.quiet_of_same (H1.out.same (Kp.drewN _ _ _)).sized)) | quiet_step ((go_at_call 65; exact Calls.quiet_of_same (H1.out.same (Kp.drewN _ _ _)).sized)))
          refine wpQuiet_nil ?_
          rintro _ ⟨nq, rfl⟩
          go_wp2
          go_ret
          exact ⟨ret_b (decide_eq_false (by omega)), W1.out.trans (Kp.drewN _ _ _)⟩
      · have hb : B = false := by rw [hB]; exact decide_eq_false (fun h => h3 h.2.2.1)
        have t3 : decide (16 ≤ z) = false := decide_eq_false h3
        clear hB h2 em; subst hb
        go_enter Tryz.func119, Tryz.ntmps119
        go_wp2_with fail
        refine wp_region_quiet_lit (by kernel_rfl) (by kernel_rfl) ?_
        repeat (first | go_big_quiet_step (fail) | quiet_step (fail))
        refine wpQuiet_nil ?_
        rintro _ ⟨nq, rfl⟩
        go_wp2
        go_ret
        exact ⟨rfl, W1.out.trans (Kp.drewN _ _ _)⟩
    · have t2 : (a.tmod 8 == 0) = false := by rw [em]; simp [h2]
      have t2e : (a % 8 == 0) = false := by simp [h2]
      have hb : B = false := by rw [hB]; exact decide_eq_false (fun h => h2 h.2.1)
      clear hB h2 em; subst hb
      go_enter Tryz.func119, Tryz.ntmps119
      go_wp2_with fail
      refine wp_region_quiet_lit (by kernel_rfl) (by kernel_rfl) ?_
      repeat (first | go_big_quiet_step (fail) | quiet_step (fail))
      refine wpQuiet_nil ?_
      rintro _ ⟨nq, rfl⟩
      go_wp2
      go_ret
      exact ⟨rfl, W1.out.trans (Kp.drewN _ _ _)⟩
  · have t1 : decide (112 ≤ a) = false := decide_eq_false h1
    have hb : B = false := by rw [hB]; exact decide_eq_false (fun h => h1 h.1)
    clear hB; subst hb
    go_enter Tryz.func119, Tryz.ntmps119
    go_wp2_with fail
    refine wp_region_quiet_lit (by kernel_rfl) (by kernel_rfl) ?_
    repeat (first | go_big_quiet_step (fail) | quiet_step (fail))
    refine wpQuiet_nil ?_
    rintro _ ⟨nq, rfl⟩
    go_wp2
    go_ret
    exact ⟨rfl, W1.out.trans (Kp.drewN _ _ _)⟩
end Go.Proofs.YtgefmnnkpffpcaaGreatDoor
