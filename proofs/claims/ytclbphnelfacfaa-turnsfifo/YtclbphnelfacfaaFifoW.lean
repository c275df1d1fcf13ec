/- TurnsFifo's walk. -/
import Derived.Test.YtclbphnelfacfaaFifo
namespace Go.Proofs.Ytclbphnelfacfaa
open Go.RowKit Go.Shelf

set_option maxRecDepth 100000 in
set_option maxHeartbeats 4000000 in
theorem fifo_no (w : World) (q : Int) (V : Value) (N : Nat) (S : Nat → Int) (hV : Si w V N S) (k : Int) (h : ¬ ((1 ≤ q ∧ q ≤ 100) ∧ N ≤ 16 ∧ (0 ≤ k ∧ k ≤ 100))) :
    Calls Try.prog 6 #[.int .i64 q, V, .int .i64 k] w fun e w' => e = .returned (.bool true) ∧ Kp w w' [] := by
  obtain ⟨ao, cap, rfl⟩ := hV.shape
  clear hV
  by_cases hq : 1 ≤ q ∧ q ≤ 100
  · obtain ⟨q', rfl⟩ : ∃ n : Nat, q = n := ⟨q.toNat, by omega⟩
    have cn := kn_new w w (Kp.refl _ _) q' (by omega) (by omega)
    have hc : (16 : Int) < N ∨ (¬ (16 : Int) < N ∧ k < 0) ∨ (¬ (16 : Int) < N ∧ ¬ k < 0 ∧ 100 < k) := by omega
    clear h hq
    rcases hc with a1 | ⟨a1, a2⟩ | ⟨a1, a2, a3⟩
    all_goals
      go_enter Try.func6, Try.ntmps6
      go_wp2_with fail
      refine cn.mono ?_
      rintro e w1 ⟨xb, rb, rfl, hl⟩
      have HK := hid hl.kp
      clear hl cn
      go_wp2_with fail
      refine (known_any _).mono ?_
      rintro e w2 ⟨rfl, hk⟩
      have HK2 := hid (HK.out.trans hk)
      clear hk
      go_wp2
      go_ret
      exact ⟨rfl, HK2.out⟩
  · have cn := tnew_no w q hq
    clear h hq
    go_enter Try.func6, Try.ntmps6
    go_wp2_with fail
    refine cn.mono ?_
    rintro e w1 ⟨rfl, rfl⟩
    go_wp2_with fail
    refine (known_any _).mono ?_
    rintro e w2 ⟨rfl, hk⟩
    have HK2 := hid hk
    clear hk
    go_wp2
    go_ret
    exact ⟨rfl, HK2.out⟩
set_option maxRecDepth 100000 in
set_option maxHeartbeats 4000000 in
theorem fifo_ok (w : World) (q : Nat) (V : Value) (N : Nat) (S : Nat → Int) (hV : Si w V N S) (k : Nat) (q1 : 1 ≤ q) (q2 : q ≤ 100) (n1 : N ≤ 16) (k1 : k ≤ 100) :
    Calls Try.prog 6 #[.int .i64 q, V, .int .i64 k] w fun e w' => e = .returned (.bool true) ∧ Kp w w' [] := by
  obtain ⟨ao, cap, rfl⟩ := hV.shape
  have HV := hid hV
  clear hV
  have a1 : ¬ (16 : Int) < N := by omega
  have a2 : ¬ (k : Int) < 0 := by omega
  have a3 : ¬ (100 : Int) < k := by omega
  go_enter Try.func6, Try.ntmps6
  go_wp2_with fail
  refine (kn_new w w (Kp.refl _ _) q q1 q2).mono ?_
  rintro e w1 ⟨xb, rb, rfl, hl⟩
  have H := hid hl
  clear hl
  go_wp2_with fail
  go_loopw [9] (fun v wr => ∃ i : Nat, i ≤ N ∧ v = .int .i64 i ∧ Hid (∃ T : Sh, (∀ t, (T t).1 = false) ∧ Kn w wr xb rb q T (fL S i) (i * 3000))) (fun v _ => N - (intOf v).toNat)
  case atStart => exact ⟨0, by omega, rfl, S0, fun _ => rfl, H.out⟩
  case round =>
    obtain ⟨i, hi, rfl, hT⟩ := hrel
    clear H
    obtain ⟨T, hT0, hK⟩ := hT.out
    have H0 := hid hT0
    have HK := hid hK
    clear hT hT0 hK
    by_cases hlt : i < N
    · have hltI : (i : Int) < N := by omega
      obtain ⟨sb, off, rfl, cs⟩ := (HV.out.keep HK.out.kp).at hlt
      go_wp2_with fail
      refine (HK.out.run (fun s hs h => h.add (by omega) i (S i) false)).mono ?_
      rintro e w2 ⟨rfl, hl⟩
      rw [fL_add] at hl
      have H1 := hid (addS_no (q := q) (fL S i) i (S i) H0.out)
      obtain ⟨T1, hT1⟩ : ∃ T1, addS q T (fL S i) i (S i) false = T1 := ⟨_, rfl⟩
      rw [hT1] at hl H1
      have H2 := hid hl
      obtain ⟨L, hL⟩ : ∃ L, fL S (i + 1) = L := ⟨_, rfl⟩
      have HL := hid hL
      rw [hL] at H2
      obtain ⟨E, hE⟩ : ∃ E, putE (fL S i) (S i) i = E := ⟨_, rfl⟩
      rw [hE]
      clear hl hT1 hE H0 HK cs hL
      go_wp2_with fail
      refine (H2.out.run (fun s hs h => h.runs (by omega))).mono ?_
      rintro e w3 ⟨rfl, hl⟩
      obtain ⟨fv, hfv⟩ : ∃ fv, fstV L = fv := ⟨_, rfl⟩
      obtain ⟨fb, hfb⟩ : ∃ fb, fstB L = fb := ⟨_, rfl⟩
      rw [hfv, hfb]
      have HF := hid (And.intro hfv hfb)
      have H3 : Hid (Kn w w3 xb rb q T1 L (i * 3000 + 100)) := hl.more (by omega)
      clear hl hfv hfb H2
      go_wp2_with fail
      go_loopw [12] (fun v wr => ∃ n : Nat, n ≤ k ∧ v = .int .i64 n ∧ Hid (Kn w wr xb rb q T1 L (i * 3000 + 100 + n * 20))) (fun v _ => k - (intOf v).toNat)
      case atStart => exact ⟨0, by omega, rfl, H3⟩
      case round =>
        obtain ⟨n, hn, rfl, hT⟩ := hrel
        clear H3
        by_cases hnk : n < k
        · have hnI : (n : Int) < k := by omega
          obtain ⟨e1, e2, e3, e4⟩ := tick_none (L := L) q H1.out
          go_wp2_with fail
          refine (hT.out.run (fun s hs h => h.tick (by omega))).mono ?_
          rintro e w4 ⟨rfl, hl⟩
          rw [e1, e2]
          rw [e3, e4] at hl
          have H4 := hid hl
          clear hl e1 e2 e3 e4
          go_wp2
          go_roundw
          case rel => exact ⟨n + 1, by omega, by simp, H4.out.more (by omega)⟩
          case measure => simp [intOf]; omega
        · have hnI : ¬ (n : Int) < k := by omega
          go_wp2_with fail
          refine (hT.out.run (fun s hs h => h.runs (by omega))).mono ?_
          rintro e w4 ⟨rfl, hl⟩
          rw [HF.out.1, HF.out.2]
          have H4 : Hid (Kn w w4 xb rb q T1 (fL S (i + 1)) ((i + 1) * 3000)) := by rw [HL.out]; exact hl.more (by omega)
          clear hl hT
          have hbb : (fb != fb) = false := by simp
          go_wp2
          go_roundw
          case rel => exact ⟨i + 1, by omega, by simp, T1, H1.out, H4.out⟩
          case measure => simp [intOf]; omega
    · have hltI : ¬ (i : Int) < N := by omega
      have hiN : i = N := by omega
      subst hiN
      go_wp2_with fail
      go_loopw [17, 18] (fun vb v wr2 => ∃ n : Nat, n ≤ i ∧ v = .int .i64 n ∧ vb = .int .i64 (bst S n) ∧ Hid (Kn w wr2 xb rb q T (fL S i) (i * 3000))) (fun _ v _ => i - (intOf v).toNat)
      case atStart => exact ⟨0, by omega, rfl, rfl, HK⟩
      case round =>
        obtain ⟨n, hn, rfl, rfl, hKr⟩ := hrel
        clear HK
        have HK := hKr
        clear hKr
        have hbl := bst_lt S n
        have HST := hid (show bst S (n + 1) = if (1 ≤ S n ∧ S n ≤ 31) ∧ (bst S n < 0 ∨ S (bst S n).toNat < S n) then (n : Int) else bst S n from rfl)
        obtain ⟨b, hb⟩ : ∃ b, bst S n = b := ⟨_, rfl⟩
        by_cases hlt2 : n < i
        · have hlI : (n : Int) < i := by omega
          obtain ⟨sb, off, rfl, cs⟩ := (HV.out.keep HK.out.kp).at hlt2
          rw [hb] at hbl HST ⊢
          have cm := fun w1 => rmay_any w1 n (S n)
          by_cases hm : 1 ≤ S n ∧ S n ≤ 31
          · rw [show decide ((0 ≤ (n : Int) ∧ (n : Int) < 16) ∧ (1 ≤ S n ∧ S n ≤ 31)) = true from decide_eq_true ⟨⟨by omega, by omega⟩, hm⟩] at cm
            by_cases hb0 : b < 0
            · have HE := hid (show bst S (n + 1) = (n : Int) by rw [HST.out, if_pos ⟨hm, .inl hb0⟩])
              clear HST hm hb
              have HS := hid (fun (W : World) (hk : Kp wr W []) => show W.cell? ⟨sb, off + n, none⟩ = some (.int .i64 (S n)) ∧ True from ⟨hk.cell cs (by simp), trivial⟩)
              have CM := hid (fun w1 : World => show Calls Try.prog 22 #[.int .i64 n, .int .i64 (S n)] w1 fun e w' => e = .returned (.bool true) ∧ Kp w1 w' [] from (cm w1).mono fun _ _ hh => ⟨hh.1, by rw [hh.2]; exact Kp.refl _ _⟩)
              clear cm
              go_wp2_with fail
              refine wp_mono (Q := fun e a' W => match e with | .normal => ∃ (t90 t91 t92 t93 t94 t95 t96 t97 t98 t99 t100 t101 t102 t103 t104 t105 t106 t107 t108 t109 : Value), a' = { tmps := #[.int .i64 (q : Nat), .slice (some ⟨sb, off, none⟩) i cap, .int .i64 (k : Nat), undef, undef, undef, u6, .pointer (some ⟨xb, 0, none⟩), .int .i64 0, .int .i64 (i : Nat), u10, u11, u12, u13, u14, u15, u16, .int .i64 b, .int .i64 (n : Nat), undef, undef, .tuple #[.pointer (some ⟨xb, 0, none⟩), .int .i64 0], .int .i64 (q : Nat), .tuple #[.pointer (some ⟨xb, 0, none⟩), .int .i64 0], .pointer (some ⟨xb, 0, none⟩), .int .i64 0, .int .i64 0, .bool false, .bool false, .slice (some ⟨sb, off, none⟩) i cap, .int .i64 (i : Nat), .bool (decide ((16 : Int) < (i : Int))), .bool (decide ((16 : Int) < (i : Int))), .bool (decide ((16 : Int) < (i : Int))), .int .i64 (k : Nat), .bool (decide ((k : Int) < 0)), .bool (decide ((16 : Int) < (i : Int)) || decide ((k : Int) < 0)), .bool (decide ((16 : Int) < (i : Int)) || decide ((k : Int) < 0)), .int .i64 (k : Nat), .bool (decide ((100 : Int) < (k : Int))), .bool (decide ((16 : Int) < (i : Int)) || decide ((k : Int) < 0) || decide ((100 : Int) < (k : Int))), undef, .int .i64 (i : Nat), .slice (some ⟨sb, off, none⟩) i cap, .int .i64 (i : Nat), .bool false, u46, u47, u48, u49, u50, u51, u52, u53, u54, u55, u56, u57, u58, u59, u60, u61, u62, u63, u64, u65, u66, u67, u68, u69, u70, u71, u72, u73, u74, u75, u76, u77, u78, u79, u80, u81, u82, u83, .int .i64 (n : Nat), .slice (some ⟨sb, off, none⟩) i cap, .int .i64 (i : Nat), .bool true, u88, u89, t90, t91, t92, t93, t94, t95, t96, t97, t98, t99, t100, t101, t102, t103, t104, t105, t106, t107, t108, t109, .bool true, u111, undef, undef, undef, undef, undef, undef, undef, undef, undef, undef, undef, undef, undef, undef, undef, undef, undef, undef, undef, undef, undef], defers := [] } ∧ Hid (Kn w W xb rb q T (fL S i) (i * 3000)) | _ => False) ?_ ?_
              · skip
                refine wp_region_held_drew (S := fun W : World => W.cell? ⟨sb, off + n, none⟩ = some (.int .i64 (S n)) ∧ True) (by kernel_rfl) (HS.out _ (Kp.drew _ _)) (fun hHeld => ?_)
                refine wpAnyH_take (i := 0) (v := .int .i64 n) rfl (by kernel_rfl) (by kernel_rfl) (by kernel_rfl) (fun _ _ _ h => h) (Or.inl ⟨by kernel_rfl, fun w _ => by kernel_rfl⟩) hHeld ?_
                refine wpAnyH_take (i := 1) (v := .slice (some ⟨sb, off, none⟩) i cap) rfl (by kernel_rfl) (by kernel_rfl) (by kernel_rfl) (fun _ _ _ h => h) (Or.inl ⟨by kernel_rfl, fun w _ => by kernel_rfl⟩) hHeld ?_
                refine wpAnyH_take (i := 2) (v := .int .i64 n) rfl (by kernel_rfl) (by kernel_rfl) (by kernel_rfl) (fun _ _ _ h => h) (Or.inl ⟨by kernel_rfl, fun w _ => by kernel_rfl⟩) hHeld ?_
                refine wpAnyH_take (i := 3) (v := .pointer (some ⟨sb, off + n, none⟩)) rfl (by kernel_rfl) (by kernel_rfl) (by kernel_rfl) (fun _ _ _ h => h) (Or.inl ⟨by kernel_rfl, by intro w hSw; obtain ⟨s1, s2⟩ := hSw; go_simp⟩) hHeld ?_
                refine wpAnyH_take (i := 4) (v := .int .i64 (S n)) rfl (by kernel_rfl) (by kernel_rfl) (by kernel_rfl) (fun _ _ _ h => h) (Or.inl ⟨by kernel_rfl, by intro w hSw; obtain ⟨s1, s2⟩ := hSw; go_simp⟩) hHeld ?_
                refine wpAnyH_ready (rs := [5]) (by kernel_rfl) (by simp) ?_
                refine AllReadyH.cons rfl (fun K hK => ?_) AllReadyH.nil
                go_simp
                refine (CM.out _).mono ?_
                rintro e w5 ⟨rfl, hk5⟩
                have K5 := hid (HK.out.same ((Kp.drew wr []).trans hk5))
                have hS5 := HS.out _ ((Kp.drew wr []).trans hk5)
                clear hk5
                go_simp
                refine hK.out _ _ hS5 (fun hHeld => ?_)
                refine wpAnyH_take (i := 6) (v := .bool true) rfl (by kernel_rfl) (by kernel_rfl) (by kernel_rfl) (fun _ _ _ h => h) (Or.inl ⟨by kernel_rfl, fun w _ => by kernel_rfl⟩) hHeld ?_
                refine wpAnyH_take (i := 7) (v := .int .i64 b) rfl (by kernel_rfl) (by kernel_rfl) (by kernel_rfl) (fun _ _ _ h => h) (Or.inl ⟨by kernel_rfl, fun w _ => by kernel_rfl⟩) hHeld ?_
                refine wpAnyH_take (i := 8) (v := .bool true) rfl (by kernel_rfl) (by kernel_rfl) (by kernel_rfl) (fun _ _ _ h => h) (Or.inl ⟨by kernel_rfl, by intro w hSw; obtain ⟨s1, s2⟩ := hSw; go_simp⟩) hHeld ?_
                refine wpAnyH_take (i := 9) (v := .bool true) rfl (by kernel_rfl) (by kernel_rfl) (by kernel_rfl) (fun _ _ _ h => h) (Or.inl ⟨by kernel_rfl, fun w _ => by kernel_rfl⟩) hHeld ?_
                refine wpAnyH_take (i := 10) (v := undef) rfl (by kernel_rfl) (by kernel_rfl) (by kernel_rfl) (fun _ _ _ h => h) (Or.inr ⟨by kernel_rfl, rfl⟩) hHeld ?_
                refine wpAnyH_take (i := 11) (v := undef) rfl (by kernel_rfl) (by kernel_rfl) (by kernel_rfl) (fun _ _ _ h => h) (Or.inr ⟨by kernel_rfl, rfl⟩) hHeld ?_
                refine wpAnyH_take (i := 12) (v := undef) rfl (by kernel_rfl) (by kernel_rfl) (by kernel_rfl) (fun _ _ _ h => h) (Or.inr ⟨by kernel_rfl, rfl⟩) hHeld ?_
                refine wpAnyH_take (i := 13) (v := undef) rfl (by kernel_rfl) (by kernel_rfl) (by kernel_rfl) (fun _ _ _ h => h) (Or.inr ⟨by kernel_rfl, rfl⟩) hHeld ?_
                refine wpAnyH_take (i := 14) (v := undef) rfl (by kernel_rfl) (by kernel_rfl) (by kernel_rfl) (fun _ _ _ h => h) (Or.inr ⟨by kernel_rfl, rfl⟩) hHeld ?_
                refine wpAnyH_take (i := 15) (v := undef) rfl (by kernel_rfl) (by kernel_rfl) (by kernel_rfl) (fun _ _ _ h => h) (Or.inr ⟨by kernel_rfl, rfl⟩) hHeld ?_
                refine wpAnyH_take (i := 16) (v := undef) rfl (by kernel_rfl) (by kernel_rfl) (by kernel_rfl) (fun _ _ _ h => h) (Or.inr ⟨by kernel_rfl, rfl⟩) hHeld ?_
                refine wpAnyH_take (i := 17) (v := undef) rfl (by kernel_rfl) (by kernel_rfl) (by kernel_rfl) (fun _ _ _ h => h) (Or.inr ⟨by kernel_rfl, rfl⟩) hHeld ?_
                refine wpAnyH_take (i := 18) (v := undef) rfl (by kernel_rfl) (by kernel_rfl) (by kernel_rfl) (fun _ _ _ h => h) (Or.inr ⟨by kernel_rfl, rfl⟩) hHeld ?_
                refine wpAnyH_take (i := 19) (v := .bool true) rfl (by kernel_rfl) (by kernel_rfl) (by kernel_rfl) (fun _ _ _ h => h) (Or.inl ⟨by kernel_rfl, fun w _ => by kernel_rfl⟩) hHeld ?_
                refine wpAnyH_take (i := 20) (v := .bool true) rfl (by kernel_rfl) (by kernel_rfl) (by kernel_rfl) (fun _ _ _ h => h) (Or.inl ⟨by kernel_rfl, fun w _ => by kernel_rfl⟩) hHeld ?_
                refine wpAnyH_done (by kernel_rfl) ?_ _
                exact ⟨.int .i64 n, .slice (some ⟨sb, off, none⟩) i cap, .int .i64 n, .pointer (some ⟨sb, off + n, none⟩), .int .i64 (S n), .bool true, .bool true, .int .i64 b, .bool true, .bool true, undef, undef, undef, undef, undef, undef, undef, undef, undef, .bool true, by kernel_rfl, K5⟩
              · rintro e a' W4 hpost
                cases e with
                | normal =>
                  obtain ⟨t90, t91, t92, t93, t94, t95, t96, t97, t98, t99, t100, t101, t102, t103, t104, t105, t106, t107, t108, t109, rfl, K5⟩ := hpost
                  go_wp2
                  go_roundw
                  case rel => exact ⟨n + 1, by omega, by simp, by rw [HE.out], K5⟩
                  case measure => simp [intOf]; omega
                | _ => exact hpost.elim
            · obtain ⟨m, rfl⟩ : ∃ m : Nat, b = m := ⟨b.toNat, by omega⟩
              have hmn : m < i := by omega
              have cs2 := (HV.out.keep HK.out.kp).at2 hmn
              rw [Int.toNat_natCast] at HST
              have hmI : (m : Int) < i := by omega
              obtain ⟨x, hx⟩ : ∃ x, S n = x := ⟨_, rfl⟩
              obtain ⟨y, hy⟩ : ∃ y, S m = y := ⟨_, rfl⟩
              rw [hx, hy] at HST
              rw [hx] at cs cm hm
              rw [hy] at cs2
              by_cases hgt : y < x
              · have HE := hid (show bst S (n + 1) = (n : Int) by rw [HST.out, if_pos ⟨hm, .inr hgt⟩])
                clear HST hm hb hx hy
                have HS := hid (fun (W : World) (hk : Kp wr W []) => show W.cell? ⟨sb, off + n, none⟩ = some (.int .i64 (x)) ∧ W.cell? ⟨sb, off + m, none⟩ = some (.int .i64 y) from ⟨hk.cell cs (by simp), hk.cell cs2 (by simp)⟩)
                have CM := hid (fun w1 : World => show Calls Try.prog 22 #[.int .i64 n, .int .i64 (x)] w1 fun e w' => e = .returned (.bool true) ∧ Kp w1 w' [] from (cm w1).mono fun _ _ hh => ⟨hh.1, by rw [hh.2]; exact Kp.refl _ _⟩)
                clear cm
                go_wp2_with fail
                refine wp_mono (Q := fun e a' W => match e with | .normal => ∃ (t90 t91 t92 t93 t94 t95 t96 t97 t98 t99 t100 t101 t102 t103 t104 t105 t106 t107 t108 t109 : Value), a' = { tmps := #[.int .i64 (q : Nat), .slice (some ⟨sb, off, none⟩) i cap, .int .i64 (k : Nat), undef, undef, undef, u6, .pointer (some ⟨xb, 0, none⟩), .int .i64 0, .int .i64 (i : Nat), u10, u11, u12, u13, u14, u15, u16, .int .i64 (m : Nat), .int .i64 (n : Nat), undef, undef, .tuple #[.pointer (some ⟨xb, 0, none⟩), .int .i64 0], .int .i64 (q : Nat), .tuple #[.pointer (some ⟨xb, 0, none⟩), .int .i64 0], .pointer (some ⟨xb, 0, none⟩), .int .i64 0, .int .i64 0, .bool false, .bool false, .slice (some ⟨sb, off, none⟩) i cap, .int .i64 (i : Nat), .bool (decide ((16 : Int) < (i : Int))), .bool (decide ((16 : Int) < (i : Int))), .bool (decide ((16 : Int) < (i : Int))), .int .i64 (k : Nat), .bool (decide ((k : Int) < 0)), .bool (decide ((16 : Int) < (i : Int)) || decide ((k : Int) < 0)), .bool (decide ((16 : Int) < (i : Int)) || decide ((k : Int) < 0)), .int .i64 (k : Nat), .bool (decide ((100 : Int) < (k : Int))), .bool (decide ((16 : Int) < (i : Int)) || decide ((k : Int) < 0) || decide ((100 : Int) < (k : Int))), undef, .int .i64 (i : Nat), .slice (some ⟨sb, off, none⟩) i cap, .int .i64 (i : Nat), .bool false, u46, u47, u48, u49, u50, u51, u52, u53, u54, u55, u56, u57, u58, u59, u60, u61, u62, u63, u64, u65, u66, u67, u68, u69, u70, u71, u72, u73, u74, u75, u76, u77, u78, u79, u80, u81, u82, u83, .int .i64 (n : Nat), .slice (some ⟨sb, off, none⟩) i cap, .int .i64 (i : Nat), .bool true, u88, u89, t90, t91, t92, t93, t94, t95, t96, t97, t98, t99, t100, t101, t102, t103, t104, t105, t106, t107, t108, t109, .bool true, u111, undef, undef, undef, undef, undef, undef, undef, undef, undef, undef, undef, undef, undef, undef, undef, undef, undef, undef, undef, undef, undef], defers := [] } ∧ Hid (Kn w W xb rb q T (fL S i) (i * 3000)) | _ => False) ?_ ?_
                · skip
                  refine wp_region_held_drew (S := fun W : World => W.cell? ⟨sb, off + n, none⟩ = some (.int .i64 (x)) ∧ W.cell? ⟨sb, off + m, none⟩ = some (.int .i64 y)) (by kernel_rfl) (HS.out _ (Kp.drew _ _)) (fun hHeld => ?_)
                  refine wpAnyH_take (i := 0) (v := .int .i64 n) rfl (by kernel_rfl) (by kernel_rfl) (by kernel_rfl) (fun _ _ _ h => h) (Or.inl ⟨by kernel_rfl, fun w _ => by kernel_rfl⟩) hHeld ?_
                  refine wpAnyH_take (i := 1) (v := .slice (some ⟨sb, off, none⟩) i cap) rfl (by kernel_rfl) (by kernel_rfl) (by kernel_rfl) (fun _ _ _ h => h) (Or.inl ⟨by kernel_rfl, fun w _ => by kernel_rfl⟩) hHeld ?_
                  refine wpAnyH_take (i := 2) (v := .int .i64 n) rfl (by kernel_rfl) (by kernel_rfl) (by kernel_rfl) (fun _ _ _ h => h) (Or.inl ⟨by kernel_rfl, fun w _ => by kernel_rfl⟩) hHeld ?_
                  refine wpAnyH_take (i := 3) (v := .pointer (some ⟨sb, off + n, none⟩)) rfl (by kernel_rfl) (by kernel_rfl) (by kernel_rfl) (fun _ _ _ h => h) (Or.inl ⟨by kernel_rfl, by intro w hSw; obtain ⟨s1, s2⟩ := hSw; go_simp⟩) hHeld ?_
                  refine wpAnyH_take (i := 4) (v := .int .i64 (x)) rfl (by kernel_rfl) (by kernel_rfl) (by kernel_rfl) (fun _ _ _ h => h) (Or.inl ⟨by kernel_rfl, by intro w hSw; obtain ⟨s1, s2⟩ := hSw; go_simp⟩) hHeld ?_
                  refine wpAnyH_ready (rs := [5]) (by kernel_rfl) (by simp) ?_
                  refine AllReadyH.cons rfl (fun K hK => ?_) AllReadyH.nil
                  go_simp
                  refine (CM.out _).mono ?_
                  rintro e w5 ⟨rfl, hk5⟩
                  have K5 := hid (HK.out.same ((Kp.drew wr []).trans hk5))
                  have hS5 := HS.out _ ((Kp.drew wr []).trans hk5)
                  clear hk5
                  go_simp
                  refine hK.out _ _ hS5 (fun hHeld => ?_)
                  refine wpAnyH_take (i := 6) (v := .bool true) rfl (by kernel_rfl) (by kernel_rfl) (by kernel_rfl) (fun _ _ _ h => h) (Or.inl ⟨by kernel_rfl, fun w _ => by kernel_rfl⟩) hHeld ?_
                  refine wpAnyH_take (i := 7) (v := .int .i64 (m : Nat)) rfl (by kernel_rfl) (by kernel_rfl) (by kernel_rfl) (fun _ _ _ h => h) (Or.inl ⟨by kernel_rfl, fun w _ => by kernel_rfl⟩) hHeld ?_
                  refine wpAnyH_take (i := 8) (v := .bool false) rfl (by kernel_rfl) (by kernel_rfl) (by kernel_rfl) (fun _ _ _ h => h) (Or.inl ⟨by kernel_rfl, by intro w hSw; obtain ⟨s1, s2⟩ := hSw; go_simp⟩) hHeld ?_
                  refine wpAnyH_take (i := 9) (v := .bool false) rfl (by kernel_rfl) (by kernel_rfl) (by kernel_rfl) (fun _ _ _ h => h) (Or.inl ⟨by kernel_rfl, fun w _ => by kernel_rfl⟩) hHeld ?_
                  refine wpAnyH_take (i := 10) (v := .slice (some ⟨sb, off, none⟩) i cap) rfl (by kernel_rfl) (by kernel_rfl) (by kernel_rfl) (fun _ _ _ h => h) (Or.inl ⟨by kernel_rfl, fun w _ => by kernel_rfl⟩) hHeld ?_
                  refine wpAnyH_take (i := 11) (v := .int .i64 n) rfl (by kernel_rfl) (by kernel_rfl) (by kernel_rfl) (fun _ _ _ h => h) (Or.inl ⟨by kernel_rfl, fun w _ => by kernel_rfl⟩) hHeld ?_
                  refine wpAnyH_take (i := 12) (v := .pointer (some ⟨sb, off + n, none⟩)) rfl (by kernel_rfl) (by kernel_rfl) (by kernel_rfl) (fun _ _ _ h => h) (Or.inl ⟨by kernel_rfl, by intro w hSw; obtain ⟨s1, s2⟩ := hSw; go_simp⟩) hHeld ?_
                  refine wpAnyH_take (i := 13) (v := .int .i64 x) rfl (by kernel_rfl) (by kernel_rfl) (by kernel_rfl) (fun _ _ _ h => h) (Or.inl ⟨by kernel_rfl, by intro w hSw; obtain ⟨s1, s2⟩ := hSw; go_simp⟩) hHeld ?_
                  refine wpAnyH_take (i := 14) (v := .slice (some ⟨sb, off, none⟩) i cap) rfl (by kernel_rfl) (by kernel_rfl) (by kernel_rfl) (fun _ _ _ h => h) (Or.inl ⟨by kernel_rfl, fun w _ => by kernel_rfl⟩) hHeld ?_
                  refine wpAnyH_take (i := 15) (v := .int .i64 (m : Nat)) rfl (by kernel_rfl) (by kernel_rfl) (by kernel_rfl) (fun _ _ _ h => h) (Or.inl ⟨by kernel_rfl, fun w _ => by kernel_rfl⟩) hHeld ?_
                  refine wpAnyH_take (i := 16) (v := .pointer (some ⟨sb, off + m, none⟩)) rfl (by kernel_rfl) (by kernel_rfl) (by kernel_rfl) (fun _ _ _ h => h) (Or.inl ⟨by kernel_rfl, by intro w hSw; obtain ⟨s1, s2⟩ := hSw; go_simp⟩) hHeld ?_
                  refine wpAnyH_take (i := 17) (v := .int .i64 y) rfl (by kernel_rfl) (by kernel_rfl) (by kernel_rfl) (fun _ _ _ h => h) (Or.inl ⟨by kernel_rfl, by intro w hSw; obtain ⟨s1, s2⟩ := hSw; go_simp⟩) hHeld ?_
                  refine wpAnyH_take (i := 18) (v := .bool true) rfl (by kernel_rfl) (by kernel_rfl) (by kernel_rfl) (fun _ _ _ h => h) (Or.inl ⟨by kernel_rfl, by intro w hSw; obtain ⟨s1, s2⟩ := hSw; go_simp⟩) hHeld ?_
                  refine wpAnyH_take (i := 19) (v := .bool true) rfl (by kernel_rfl) (by kernel_rfl) (by kernel_rfl) (fun _ _ _ h => h) (Or.inl ⟨by kernel_rfl, fun w _ => by kernel_rfl⟩) hHeld ?_
                  refine wpAnyH_take (i := 20) (v := .bool true) rfl (by kernel_rfl) (by kernel_rfl) (by kernel_rfl) (fun _ _ _ h => h) (Or.inl ⟨by kernel_rfl, fun w _ => by kernel_rfl⟩) hHeld ?_
                  refine wpAnyH_done (by kernel_rfl) ?_ _
                  exact ⟨.int .i64 n, .slice (some ⟨sb, off, none⟩) i cap, .int .i64 n, .pointer (some ⟨sb, off + n, none⟩), .int .i64 (x), .bool true, .bool true, .int .i64 (m : Nat), .bool false, .bool false, .slice (some ⟨sb, off, none⟩) i cap, .int .i64 n, .pointer (some ⟨sb, off + n, none⟩), .int .i64 x, .slice (some ⟨sb, off, none⟩) i cap, .int .i64 (m : Nat), .pointer (some ⟨sb, off + m, none⟩), .int .i64 y, .bool true, .bool true, by kernel_rfl, K5⟩
                · rintro e a' W4 hpost
                  cases e with
                  | normal =>
                    obtain ⟨t90, t91, t92, t93, t94, t95, t96, t97, t98, t99, t100, t101, t102, t103, t104, t105, t106, t107, t108, t109, rfl, K5⟩ := hpost
                    go_wp2
                    go_roundw
                    case rel => exact ⟨n + 1, by omega, by simp, by rw [HE.out], K5⟩
                    case measure => simp [intOf]; omega
                  | _ => exact hpost.elim
              · have HE := hid (show bst S (n + 1) = (m : Int) by rw [HST.out, if_neg (by rintro ⟨-, h | h⟩ <;> omega)])
                clear HST hm hb hx hy
                have HS := hid (fun (W : World) (hk : Kp wr W []) => show W.cell? ⟨sb, off + n, none⟩ = some (.int .i64 (x)) ∧ W.cell? ⟨sb, off + m, none⟩ = some (.int .i64 y) from ⟨hk.cell cs (by simp), hk.cell cs2 (by simp)⟩)
                have CM := hid (fun w1 : World => show Calls Try.prog 22 #[.int .i64 n, .int .i64 (x)] w1 fun e w' => e = .returned (.bool true) ∧ Kp w1 w' [] from (cm w1).mono fun _ _ hh => ⟨hh.1, by rw [hh.2]; exact Kp.refl _ _⟩)
                clear cm
                go_wp2_with fail
                refine wp_mono (Q := fun e a' W => match e with | .normal => ∃ (t90 t91 t92 t93 t94 t95 t96 t97 t98 t99 t100 t101 t102 t103 t104 t105 t106 t107 t108 t109 : Value), a' = { tmps := #[.int .i64 (q : Nat), .slice (some ⟨sb, off, none⟩) i cap, .int .i64 (k : Nat), undef, undef, undef, u6, .pointer (some ⟨xb, 0, none⟩), .int .i64 0, .int .i64 (i : Nat), u10, u11, u12, u13, u14, u15, u16, .int .i64 (m : Nat), .int .i64 (n : Nat), undef, undef, .tuple #[.pointer (some ⟨xb, 0, none⟩), .int .i64 0], .int .i64 (q : Nat), .tuple #[.pointer (some ⟨xb, 0, none⟩), .int .i64 0], .pointer (some ⟨xb, 0, none⟩), .int .i64 0, .int .i64 0, .bool false, .bool false, .slice (some ⟨sb, off, none⟩) i cap, .int .i64 (i : Nat), .bool (decide ((16 : Int) < (i : Int))), .bool (decide ((16 : Int) < (i : Int))), .bool (decide ((16 : Int) < (i : Int))), .int .i64 (k : Nat), .bool (decide ((k : Int) < 0)), .bool (decide ((16 : Int) < (i : Int)) || decide ((k : Int) < 0)), .bool (decide ((16 : Int) < (i : Int)) || decide ((k : Int) < 0)), .int .i64 (k : Nat), .bool (decide ((100 : Int) < (k : Int))), .bool (decide ((16 : Int) < (i : Int)) || decide ((k : Int) < 0) || decide ((100 : Int) < (k : Int))), undef, .int .i64 (i : Nat), .slice (some ⟨sb, off, none⟩) i cap, .int .i64 (i : Nat), .bool false, u46, u47, u48, u49, u50, u51, u52, u53, u54, u55, u56, u57, u58, u59, u60, u61, u62, u63, u64, u65, u66, u67, u68, u69, u70, u71, u72, u73, u74, u75, u76, u77, u78, u79, u80, u81, u82, u83, .int .i64 (n : Nat), .slice (some ⟨sb, off, none⟩) i cap, .int .i64 (i : Nat), .bool true, u88, u89, t90, t91, t92, t93, t94, t95, t96, t97, t98, t99, t100, t101, t102, t103, t104, t105, t106, t107, t108, t109, .bool false, u111, undef, undef, undef, undef, undef, undef, undef, undef, undef, undef, undef, undef, undef, undef, undef, undef, undef, undef, undef, undef, undef], defers := [] } ∧ Hid (Kn w W xb rb q T (fL S i) (i * 3000)) | _ => False) ?_ ?_
                · skip
                  refine wp_region_held_drew (S := fun W : World => W.cell? ⟨sb, off + n, none⟩ = some (.int .i64 (x)) ∧ W.cell? ⟨sb, off + m, none⟩ = some (.int .i64 y)) (by kernel_rfl) (HS.out _ (Kp.drew _ _)) (fun hHeld => ?_)
                  refine wpAnyH_take (i := 0) (v := .int .i64 n) rfl (by kernel_rfl) (by kernel_rfl) (by kernel_rfl) (fun _ _ _ h => h) (Or.inl ⟨by kernel_rfl, fun w _ => by kernel_rfl⟩) hHeld ?_
                  refine wpAnyH_take (i := 1) (v := .slice (some ⟨sb, off, none⟩) i cap) rfl (by kernel_rfl) (by kernel_rfl) (by kernel_rfl) (fun _ _ _ h => h) (Or.inl ⟨by kernel_rfl, fun w _ => by kernel_rfl⟩) hHeld ?_
                  refine wpAnyH_take (i := 2) (v := .int .i64 n) rfl (by kernel_rfl) (by kernel_rfl) (by kernel_rfl) (fun _ _ _ h => h) (Or.inl ⟨by kernel_rfl, fun w _ => by kernel_rfl⟩) hHeld ?_
                  refine wpAnyH_take (i := 3) (v := .pointer (some ⟨sb, off + n, none⟩)) rfl (by kernel_rfl) (by kernel_rfl) (by kernel_rfl) (fun _ _ _ h => h) (Or.inl ⟨by kernel_rfl, by intro w hSw; obtain ⟨s1, s2⟩ := hSw; go_simp⟩) hHeld ?_
                  refine wpAnyH_take (i := 4) (v := .int .i64 (x)) rfl (by kernel_rfl) (by kernel_rfl) (by kernel_rfl) (fun _ _ _ h => h) (Or.inl ⟨by kernel_rfl, by intro w hSw; obtain ⟨s1, s2⟩ := hSw; go_simp⟩) hHeld ?_
                  refine wpAnyH_ready (rs := [5]) (by kernel_rfl) (by simp) ?_
                  refine AllReadyH.cons rfl (fun K hK => ?_) AllReadyH.nil
                  go_simp
                  refine (CM.out _).mono ?_
                  rintro e w5 ⟨rfl, hk5⟩
                  have K5 := hid (HK.out.same ((Kp.drew wr []).trans hk5))
                  have hS5 := HS.out _ ((Kp.drew wr []).trans hk5)
                  clear hk5
                  go_simp
                  refine hK.out _ _ hS5 (fun hHeld => ?_)
                  refine wpAnyH_take (i := 6) (v := .bool true) rfl (by kernel_rfl) (by kernel_rfl) (by kernel_rfl) (fun _ _ _ h => h) (Or.inl ⟨by kernel_rfl, fun w _ => by kernel_rfl⟩) hHeld ?_
                  refine wpAnyH_take (i := 7) (v := .int .i64 (m : Nat)) rfl (by kernel_rfl) (by kernel_rfl) (by kernel_rfl) (fun _ _ _ h => h) (Or.inl ⟨by kernel_rfl, fun w _ => by kernel_rfl⟩) hHeld ?_
                  refine wpAnyH_take (i := 8) (v := .bool false) rfl (by kernel_rfl) (by kernel_rfl) (by kernel_rfl) (fun _ _ _ h => h) (Or.inl ⟨by kernel_rfl, by intro w hSw; obtain ⟨s1, s2⟩ := hSw; go_simp⟩) hHeld ?_
                  refine wpAnyH_take (i := 9) (v := .bool false) rfl (by kernel_rfl) (by kernel_rfl) (by kernel_rfl) (fun _ _ _ h => h) (Or.inl ⟨by kernel_rfl, fun w _ => by kernel_rfl⟩) hHeld ?_
                  refine wpAnyH_take (i := 10) (v := .slice (some ⟨sb, off, none⟩) i cap) rfl (by kernel_rfl) (by kernel_rfl) (by kernel_rfl) (fun _ _ _ h => h) (Or.inl ⟨by kernel_rfl, fun w _ => by kernel_rfl⟩) hHeld ?_
                  refine wpAnyH_take (i := 11) (v := .int .i64 n) rfl (by kernel_rfl) (by kernel_rfl) (by kernel_rfl) (fun _ _ _ h => h) (Or.inl ⟨by kernel_rfl, fun w _ => by kernel_rfl⟩) hHeld ?_
                  refine wpAnyH_take (i := 12) (v := .pointer (some ⟨sb, off + n, none⟩)) rfl (by kernel_rfl) (by kernel_rfl) (by kernel_rfl) (fun _ _ _ h => h) (Or.inl ⟨by kernel_rfl, by intro w hSw; obtain ⟨s1, s2⟩ := hSw; go_simp⟩) hHeld ?_
                  refine wpAnyH_take (i := 13) (v := .int .i64 x) rfl (by kernel_rfl) (by kernel_rfl) (by kernel_rfl) (fun _ _ _ h => h) (Or.inl ⟨by kernel_rfl, by intro w hSw; obtain ⟨s1, s2⟩ := hSw; go_simp⟩) hHeld ?_
                  refine wpAnyH_take (i := 14) (v := .slice (some ⟨sb, off, none⟩) i cap) rfl (by kernel_rfl) (by kernel_rfl) (by kernel_rfl) (fun _ _ _ h => h) (Or.inl ⟨by kernel_rfl, fun w _ => by kernel_rfl⟩) hHeld ?_
                  refine wpAnyH_take (i := 15) (v := .int .i64 (m : Nat)) rfl (by kernel_rfl) (by kernel_rfl) (by kernel_rfl) (fun _ _ _ h => h) (Or.inl ⟨by kernel_rfl, fun w _ => by kernel_rfl⟩) hHeld ?_
                  refine wpAnyH_take (i := 16) (v := .pointer (some ⟨sb, off + m, none⟩)) rfl (by kernel_rfl) (by kernel_rfl) (by kernel_rfl) (fun _ _ _ h => h) (Or.inl ⟨by kernel_rfl, by intro w hSw; obtain ⟨s1, s2⟩ := hSw; go_simp⟩) hHeld ?_
                  refine wpAnyH_take (i := 17) (v := .int .i64 y) rfl (by kernel_rfl) (by kernel_rfl) (by kernel_rfl) (fun _ _ _ h => h) (Or.inl ⟨by kernel_rfl, by intro w hSw; obtain ⟨s1, s2⟩ := hSw; go_simp⟩) hHeld ?_
                  refine wpAnyH_take (i := 18) (v := .bool false) rfl (by kernel_rfl) (by kernel_rfl) (by kernel_rfl) (fun _ _ _ h => h) (Or.inl ⟨by kernel_rfl, by intro w hSw; obtain ⟨s1, s2⟩ := hSw; go_simp⟩) hHeld ?_
                  refine wpAnyH_take (i := 19) (v := .bool false) rfl (by kernel_rfl) (by kernel_rfl) (by kernel_rfl) (fun _ _ _ h => h) (Or.inl ⟨by kernel_rfl, fun w _ => by kernel_rfl⟩) hHeld ?_
                  refine wpAnyH_take (i := 20) (v := .bool false) rfl (by kernel_rfl) (by kernel_rfl) (by kernel_rfl) (fun _ _ _ h => h) (Or.inl ⟨by kernel_rfl, fun w _ => by kernel_rfl⟩) hHeld ?_
                  refine wpAnyH_done (by kernel_rfl) ?_ _
                  exact ⟨.int .i64 n, .slice (some ⟨sb, off, none⟩) i cap, .int .i64 n, .pointer (some ⟨sb, off + n, none⟩), .int .i64 (x), .bool true, .bool true, .int .i64 (m : Nat), .bool false, .bool false, .slice (some ⟨sb, off, none⟩) i cap, .int .i64 n, .pointer (some ⟨sb, off + n, none⟩), .int .i64 x, .slice (some ⟨sb, off, none⟩) i cap, .int .i64 (m : Nat), .pointer (some ⟨sb, off + m, none⟩), .int .i64 y, .bool false, .bool false, by kernel_rfl, K5⟩
                · rintro e a' W4 hpost
                  cases e with
                  | normal =>
                    obtain ⟨t90, t91, t92, t93, t94, t95, t96, t97, t98, t99, t100, t101, t102, t103, t104, t105, t106, t107, t108, t109, rfl, K5⟩ := hpost
                    go_wp2
                    go_roundw
                    case rel => exact ⟨n + 1, by omega, by simp, by rw [HE.out], K5⟩
                    case measure => simp [intOf]; omega
                  | _ => exact hpost.elim
          · rw [show decide ((0 ≤ (n : Int) ∧ (n : Int) < 16) ∧ (1 ≤ S n ∧ S n ≤ 31)) = false from decide_eq_false (fun hh => hm hh.2)] at cm
            have HE := hid (show bst S (n + 1) = b by rw [HST.out, if_neg (fun hh => hm hh.1)])
            clear HST hm hb
            have HS := hid (fun (W : World) (hk : Kp wr W []) => show W.cell? ⟨sb, off + n, none⟩ = some (.int .i64 (S n)) ∧ True from ⟨hk.cell cs (by simp), trivial⟩)
            have CM := hid (fun w1 : World => show Calls Try.prog 22 #[.int .i64 n, .int .i64 (S n)] w1 fun e w' => e = .returned (.bool false) ∧ Kp w1 w' [] from (cm w1).mono fun _ _ hh => ⟨hh.1, by rw [hh.2]; exact Kp.refl _ _⟩)
            clear cm
            go_wp2_with fail
            refine wp_mono (Q := fun e a' W => match e with | .normal => ∃ (t90 t91 t92 t93 t94 t95 t96 t97 t98 t99 t100 t101 t102 t103 t104 t105 t106 t107 t108 t109 : Value), a' = { tmps := #[.int .i64 (q : Nat), .slice (some ⟨sb, off, none⟩) i cap, .int .i64 (k : Nat), undef, undef, undef, u6, .pointer (some ⟨xb, 0, none⟩), .int .i64 0, .int .i64 (i : Nat), u10, u11, u12, u13, u14, u15, u16, .int .i64 b, .int .i64 (n : Nat), undef, undef, .tuple #[.pointer (some ⟨xb, 0, none⟩), .int .i64 0], .int .i64 (q : Nat), .tuple #[.pointer (some ⟨xb, 0, none⟩), .int .i64 0], .pointer (some ⟨xb, 0, none⟩), .int .i64 0, .int .i64 0, .bool false, .bool false, .slice (some ⟨sb, off, none⟩) i cap, .int .i64 (i : Nat), .bool (decide ((16 : Int) < (i : Int))), .bool (decide ((16 : Int) < (i : Int))), .bool (decide ((16 : Int) < (i : Int))), .int .i64 (k : Nat), .bool (decide ((k : Int) < 0)), .bool (decide ((16 : Int) < (i : Int)) || decide ((k : Int) < 0)), .bool (decide ((16 : Int) < (i : Int)) || decide ((k : Int) < 0)), .int .i64 (k : Nat), .bool (decide ((100 : Int) < (k : Int))), .bool (decide ((16 : Int) < (i : Int)) || decide ((k : Int) < 0) || decide ((100 : Int) < (k : Int))), undef, .int .i64 (i : Nat), .slice (some ⟨sb, off, none⟩) i cap, .int .i64 (i : Nat), .bool false, u46, u47, u48, u49, u50, u51, u52, u53, u54, u55, u56, u57, u58, u59, u60, u61, u62, u63, u64, u65, u66, u67, u68, u69, u70, u71, u72, u73, u74, u75, u76, u77, u78, u79, u80, u81, u82, u83, .int .i64 (n : Nat), .slice (some ⟨sb, off, none⟩) i cap, .int .i64 (i : Nat), .bool true, u88, u89, t90, t91, t92, t93, t94, t95, t96, t97, t98, t99, t100, t101, t102, t103, t104, t105, t106, t107, t108, t109, .bool false, u111, undef, undef, undef, undef, undef, undef, undef, undef, undef, undef, undef, undef, undef, undef, undef, undef, undef, undef, undef, undef, undef], defers := [] } ∧ Hid (Kn w W xb rb q T (fL S i) (i * 3000)) | _ => False) ?_ ?_
            · skip
              refine wp_region_held_drew (S := fun W : World => W.cell? ⟨sb, off + n, none⟩ = some (.int .i64 (S n)) ∧ True) (by kernel_rfl) (HS.out _ (Kp.drew _ _)) (fun hHeld => ?_)
              refine wpAnyH_take (i := 0) (v := .int .i64 n) rfl (by kernel_rfl) (by kernel_rfl) (by kernel_rfl) (fun _ _ _ h => h) (Or.inl ⟨by kernel_rfl, fun w _ => by kernel_rfl⟩) hHeld ?_
              refine wpAnyH_take (i := 1) (v := .slice (some ⟨sb, off, none⟩) i cap) rfl (by kernel_rfl) (by kernel_rfl) (by kernel_rfl) (fun _ _ _ h => h) (Or.inl ⟨by kernel_rfl, fun w _ => by kernel_rfl⟩) hHeld ?_
              refine wpAnyH_take (i := 2) (v := .int .i64 n) rfl (by kernel_rfl) (by kernel_rfl) (by kernel_rfl) (fun _ _ _ h => h) (Or.inl ⟨by kernel_rfl, fun w _ => by kernel_rfl⟩) hHeld ?_
              refine wpAnyH_take (i := 3) (v := .pointer (some ⟨sb, off + n, none⟩)) rfl (by kernel_rfl) (by kernel_rfl) (by kernel_rfl) (fun _ _ _ h => h) (Or.inl ⟨by kernel_rfl, by intro w hSw; obtain ⟨s1, s2⟩ := hSw; go_simp⟩) hHeld ?_
              refine wpAnyH_take (i := 4) (v := .int .i64 (S n)) rfl (by kernel_rfl) (by kernel_rfl) (by kernel_rfl) (fun _ _ _ h => h) (Or.inl ⟨by kernel_rfl, by intro w hSw; obtain ⟨s1, s2⟩ := hSw; go_simp⟩) hHeld ?_
              refine wpAnyH_ready (rs := [5]) (by kernel_rfl) (by simp) ?_
              refine AllReadyH.cons rfl (fun K hK => ?_) AllReadyH.nil
              go_simp
              refine (CM.out _).mono ?_
              rintro e w5 ⟨rfl, hk5⟩
              have K5 := hid (HK.out.same ((Kp.drew wr []).trans hk5))
              have hS5 := HS.out _ ((Kp.drew wr []).trans hk5)
              clear hk5
              go_simp
              refine hK.out _ _ hS5 (fun hHeld => ?_)
              refine wpAnyH_take (i := 6) (v := .bool false) rfl (by kernel_rfl) (by kernel_rfl) (by kernel_rfl) (fun _ _ _ h => h) (Or.inl ⟨by kernel_rfl, fun w _ => by kernel_rfl⟩) hHeld ?_
              refine wpAnyH_take (i := 7) (v := undef) rfl (by kernel_rfl) (by kernel_rfl) (by kernel_rfl) (fun _ _ _ h => h) (Or.inr ⟨by kernel_rfl, rfl⟩) hHeld ?_
              refine wpAnyH_take (i := 8) (v := undef) rfl (by kernel_rfl) (by kernel_rfl) (by kernel_rfl) (fun _ _ _ h => h) (Or.inr ⟨by kernel_rfl, rfl⟩) hHeld ?_
              refine wpAnyH_take (i := 9) (v := undef) rfl (by kernel_rfl) (by kernel_rfl) (by kernel_rfl) (fun _ _ _ h => h) (Or.inr ⟨by kernel_rfl, rfl⟩) hHeld ?_
              refine wpAnyH_take (i := 10) (v := undef) rfl (by kernel_rfl) (by kernel_rfl) (by kernel_rfl) (fun _ _ _ h => h) (Or.inr ⟨by kernel_rfl, rfl⟩) hHeld ?_
              refine wpAnyH_take (i := 11) (v := undef) rfl (by kernel_rfl) (by kernel_rfl) (by kernel_rfl) (fun _ _ _ h => h) (Or.inr ⟨by kernel_rfl, rfl⟩) hHeld ?_
              refine wpAnyH_take (i := 12) (v := undef) rfl (by kernel_rfl) (by kernel_rfl) (by kernel_rfl) (fun _ _ _ h => h) (Or.inr ⟨by kernel_rfl, rfl⟩) hHeld ?_
              refine wpAnyH_take (i := 13) (v := undef) rfl (by kernel_rfl) (by kernel_rfl) (by kernel_rfl) (fun _ _ _ h => h) (Or.inr ⟨by kernel_rfl, rfl⟩) hHeld ?_
              refine wpAnyH_take (i := 14) (v := undef) rfl (by kernel_rfl) (by kernel_rfl) (by kernel_rfl) (fun _ _ _ h => h) (Or.inr ⟨by kernel_rfl, rfl⟩) hHeld ?_
              refine wpAnyH_take (i := 15) (v := undef) rfl (by kernel_rfl) (by kernel_rfl) (by kernel_rfl) (fun _ _ _ h => h) (Or.inr ⟨by kernel_rfl, rfl⟩) hHeld ?_
              refine wpAnyH_take (i := 16) (v := undef) rfl (by kernel_rfl) (by kernel_rfl) (by kernel_rfl) (fun _ _ _ h => h) (Or.inr ⟨by kernel_rfl, rfl⟩) hHeld ?_
              refine wpAnyH_take (i := 17) (v := undef) rfl (by kernel_rfl) (by kernel_rfl) (by kernel_rfl) (fun _ _ _ h => h) (Or.inr ⟨by kernel_rfl, rfl⟩) hHeld ?_
              refine wpAnyH_take (i := 18) (v := undef) rfl (by kernel_rfl) (by kernel_rfl) (by kernel_rfl) (fun _ _ _ h => h) (Or.inr ⟨by kernel_rfl, rfl⟩) hHeld ?_
              refine wpAnyH_take (i := 19) (v := undef) rfl (by kernel_rfl) (by kernel_rfl) (by kernel_rfl) (fun _ _ _ h => h) (Or.inr ⟨by kernel_rfl, rfl⟩) hHeld ?_
              refine wpAnyH_take (i := 20) (v := .bool false) rfl (by kernel_rfl) (by kernel_rfl) (by kernel_rfl) (fun _ _ _ h => h) (Or.inl ⟨by kernel_rfl, fun w _ => by kernel_rfl⟩) hHeld ?_
              refine wpAnyH_done (by kernel_rfl) ?_ _
              exact ⟨.int .i64 n, .slice (some ⟨sb, off, none⟩) i cap, .int .i64 n, .pointer (some ⟨sb, off + n, none⟩), .int .i64 (S n), .bool false, .bool false, undef, undef, undef, undef, undef, undef, undef, undef, undef, undef, undef, undef, undef, by kernel_rfl, K5⟩
            · rintro e a' W4 hpost
              cases e with
              | normal =>
                obtain ⟨t90, t91, t92, t93, t94, t95, t96, t97, t98, t99, t100, t101, t102, t103, t104, t105, t106, t107, t108, t109, rfl, K5⟩ := hpost
                go_wp2
                go_roundw
                case rel => exact ⟨n + 1, by omega, by simp, by rw [HE.out], K5⟩
                case measure => simp [intOf]; omega
              | _ => exact hpost.elim
        · have hlI : ¬ (n : Int) < i := by omega
          have hni : n = i := by omega
          subst hni
          have HB := hid (bs_first (bs_at S n n1))
          rw [hb] at HB ⊢
          clear HST hbl hb
          go_wp2_with fail
          refine (HK.out.run (fun s hs h => h.runs (by omega))).mono ?_
          rintro e w4 ⟨rfl, hl⟩
          have HK4 := hid hl.kp
          clear hl
          rcases HB.out with ⟨hb0, hf⟩ | ⟨t, rfl, hf, hv⟩
          · rw [hf]
            obtain ⟨fv, hfv⟩ : ∃ fv, fstV (fL S n) = fv := ⟨_, rfl⟩
            rw [hfv]
            have hb1 : ¬ (0 : Int) ≤ b := by omega
            clear hfv hf
            go_wp2_with fail
            refine (known_any _).mono ?_
            rintro e w5 ⟨rfl, hk⟩
            have K5 := hid (HK4.out.trans hk)
            clear hk
            go_wp2
            go_ret
            refine ⟨?_, K5.out⟩
            show Ending.returned (Value.bool (!decide ((0 : Int) ≤ b))) = _
            rw [show decide ((0 : Int) ≤ b) = false from decide_eq_false (by omega)]
            rfl
          · rw [hf, hv]
            have hb1 : (0 : Int) ≤ (t : Int) := by omega
            clear hf hv
            go_wp2_with fail
            refine (known_any _).mono ?_
            rintro e w5 ⟨rfl, hk⟩
            have K5 := hid (HK4.out.trans hk)
            clear hk
            go_wp2
            go_ret
            exact ⟨rfl, K5.out⟩
theorem fifo_walk (w : World) (q : Int) (V : Value) (N : Nat) (S : Nat → Int) (hV : Si w V N S) (k : Int) : Calls Try.prog 6 #[.int .i64 q, V, .int .i64 k] w fun e w' => e = .returned (.bool true) ∧ Kp w w' [] := by
  by_cases h : (1 ≤ q ∧ q ≤ 100) ∧ N ≤ 16 ∧ (0 ≤ k ∧ k ≤ 100)
  · obtain ⟨q', rfl⟩ : ∃ n : Nat, q = n := ⟨q.toNat, by omega⟩
    obtain ⟨k', rfl⟩ : ∃ n : Nat, k = n := ⟨k.toNat, by omega⟩
    exact fifo_ok w q' V N S hV k' (by omega) (by omega) (by omega) (by omega)
  · exact fifo_no w q V N S hV k h
end Go.Proofs.Ytclbphnelfacfaa
