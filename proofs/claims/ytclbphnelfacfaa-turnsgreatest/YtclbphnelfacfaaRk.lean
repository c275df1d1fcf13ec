/- The reference: Tick. -/
import Derived.Test.YtclbphnelfacfaaRw
namespace Go.Proofs.Ytclbphnelfacfaa
open Go.RowKit Go.Shelf

section
variable {w w' : World} {qb q : Nat} {L : Ls} {S : Sh}
set_option maxRecDepth 100000 in
set_option maxHeartbeats 2000000 in
theorem Rt.tick (h : Rt w qb q L S) (hok : okL L) (hl : ∀ t, (S t).2 ≤ 100) : Calls Try.prog 37 #[.pointer (some ⟨qb, 0, none⟩)] w fun e w' => e = .returned (.tuple #[.int .i64 (tkV L S : Nat), .bool (tkB L S)]) ∧ Rt w' qb q (tkL L S) (tkS q L S) ∧ Kp w w' [qb] := by
  have cr := rruns_ok h hok.len
  unfold tkV tkL tkS
  by_cases h1 : fstB L = true
  case neg =>
    have h1 : fstB L = false := by simpa using h1
    have e1 : tkG L S = false := by unfold tkG; rw [h1]; rfl
    have e2 : tkB L S = false := by unfold tkB; rw [e1]; rfl
    rw [e1, e2]
    rw [h1] at cr
    have H := hid h
    clear h h1 e1 e2
    go_enter Try.func37, Try.ntmps37
    go_wp2_with fail
    refine cr.mono ?_
    rintro e w1 ⟨rfl, hT⟩
    have HT := hid hT
    clear hT cr
    go_wp2
    go_ret2
    exact ⟨rfl, H.out.keep HT.out, HT.out.nil⟩
  obtain ⟨t1, hp⟩ := fst_in hok h1
  rw [h1] at cr
  by_cases h2 : (S (fstV L)).1 = true
  case neg =>
    have h2 : (S (fstV L)).1 = false := by simpa using h2
    have e1 : tkG L S = false := by unfold tkG; rw [h2]; simp
    have e2 : tkB L S = false := by unfold tkB; rw [e1]; rfl
    rw [e1, e2]
    obtain ⟨T, hT⟩ : ∃ T, fstV L = T := ⟨_, rfl⟩
    rw [hT] at cr t1 h2
    have ht0 : (0 : Int) ≤ (T : Int) := by omega
    have ht1 : (T : Int) < 16 := by omega
    have H := hid h
    clear h h1 e1 e2 hT hp
    go_enter Try.func37, Try.ntmps37
    go_wp2_with fail
    refine cr.mono ?_
    rintro e w1 ⟨rfl, hT⟩
    have HT := hid hT
    have c2 := Rx.robin (H.out.keep hT) t1
    rw [h2] at c2
    clear hT cr
    go_wp2
    go_ret2
    exact ⟨rfl, H.out.keep HT.out, HT.out.nil⟩
  have e1 : tkG L S = true := by unfold tkG; rw [h1, h2]; rfl
  by_cases h3 : (S (fstV L)).2 ≤ 1
  · have e2 : tkB L S = true := by unfold tkB; rw [e1]; simp [h3]
    simp only [e1, e2, h3, if_true]
    have hyi : yiL L (fstV L) = goL false L (fstV L) (prN L (fstV L) 31) := by
      unfold yiL
      rw [rem_E L t1, if_neg hp, if_pos rfl, prI_nat]
    rw [hyi]
    have n2 := prN_le L (fstV L) 31
    obtain ⟨T, hT⟩ : ∃ T, fstV L = T := ⟨_, rfl⟩
    rw [hT] at cr t1 h2 h3 hp n2 ⊢
    have ht0 : (0 : Int) ≤ (T : Int) := by omega
    have ht1 : (T : Int) < 16 := by omega
    obtain ⟨n, hn⟩ : ∃ n, (S T).2 = n := ⟨_, rfl⟩
    rw [hn] at h3
    have hw : IntKind.i64.wrap ((n : Int) - 1) = (n : Int) - 1 := IntWalk.i64_in _ ⟨by omega, by omega⟩
    have h3' : ¬ (0 : Int) < (n : Int) - 1 := by omega
    have n1 : 1 ≤ prN L T 31 := by omega
    have H := hid h
    obtain ⟨R, hR⟩ : ∃ R, prN L T 31 = R := ⟨_, rfl⟩
    rw [hR] at n1 n2 ⊢
    have HR := hid hR
    clear h h1 e1 e2 hT hyi hp hR
    go_enter Try.func37, Try.ntmps37
    go_wp2_with fail
    refine cr.mono ?_
    rintro e w1 ⟨rfl, hT⟩
    have h1 := H.out.keep hT
    have c2 := Rx.robin h1 t1
    rw [h2] at c2
    have c3 := Rx.left h1 t1
    rw [hn] at c3
    have f3 := Rx.free h1 (65 + T)
    have h4 := Rx.keep (Rx.setLeft h1 t1 ((n : Int) - 1)) (Kp.drew _ [])
    have c5 := h4.left t1
    rw [updA_same] at c5
    have c6 := h4.prio t1
    simp only [HR.out] at c6
    have H4 := hid h4
    have K4 := hid (hT.nil.trans ((Kp.setCell w1 ⟨qb, 65 + T, none⟩ (.int .i64 ((n : Int) - 1))).trans (Kp.drew _ [qb])))
    have HN := hid hn
    have CG := hid (rx_goes h4 hok t1 n1 n2 false)
    have C5 := hid c5
    have C6 := hid c6
    clear h1 h4 hT cr hn c5 c6
    go_wp2_with fail
    go_region
    obtain ⟨m, hm⟩ : ∃ m, (n : Int) - 1 = m := ⟨_, rfl⟩
    rw [hm] at C5 C6 H4 K4 CG h3' ⊢
    have HM := hid hm
    clear hw hm c2 c3 f3
    generalize World.drew (w1.setCell ⟨qb, 65 + T, none⟩ (.int .i64 m)) = W4 at C5 C6 H4 K4 CG ⊢
    have c5 := C5.out
    have c6 := C6.out
    have hmd : decide ((0 : Int) < m) = false := decide_eq_false (by omega)
    have hmn : ¬ (0 : Int) < m := by omega
    have HL := hid hl
    have HO := hid hok
    clear h3 h3' hl hok
    go_wp2_with fail
    refine CG.out.mono ?_
    rintro e w2 ⟨⟨v, rfl⟩, hX, hK⟩
    have c7 := hX.quantum
    have c8 := hX.left t1
    have f8 := hX.free (65 + T)
    have H8 := hid (hX.setLeft t1 (q : Nat))
    have K8 := hid ((K4.out.trans hK).trans (Kp.setCell w2 ⟨qb, 65 + T, none⟩ (.int .i64 (q : Nat))))
    clear hX hK CG
    go_wp2_with fail
    go_region
    go_wp2
    go_ret2
    refine ⟨rfl, ?_, K8.out.trans (Kp.drew _ _)⟩
    have h9 := H8.out
    rw [updA_two] at h9
    have h10 : Rx (w2.setCell ⟨qb, 65 + T, none⟩ (.int .i64 (q : Nat))) qb q (goL false L T R) (fun t => prN (goL false L T R) t 31) (updA (fun t => (S t).1) T true) (updA (fun t => ((S t).2 : Int)) T (q : Int)) :=
      Rx.congr h9 (fun _ _ => rfl) (fun t _ => by
        unfold updA
        by_cases e : t = T
        · rw [if_pos e, e]; exact h2
        · rw [if_neg e]) (fun _ _ => rfl)
    exact Rt.keep (rt_fill h10 (fun _ _ => rfl) (fun _ => rfl) (fun _ => rfl)) (Kp.drew _ _)
  · have e2 : tkB L S = false := by unfold tkB; rw [e1]; simp; omega
    rw [e1, e2, if_neg h3]
    simp only [if_true]
    have hb := hl (fstV L)
    obtain ⟨T, hT⟩ : ∃ T, fstV L = T := ⟨_, rfl⟩
    rw [hT] at cr t1 h2 h3 hb ⊢
    have ht0 : (0 : Int) ≤ (T : Int) := by omega
    have ht1 : (T : Int) < 16 := by omega
    obtain ⟨n, hn⟩ : ∃ n, (S T).2 = n := ⟨_, rfl⟩
    rw [hn] at h3 hb ⊢
    have hw : IntKind.i64.wrap ((n : Int) - 1) = (n : Int) - 1 := IntWalk.i64_in _ ⟨by omega, by omega⟩
    have h3' : (0 : Int) < (n : Int) - 1 := by omega
    have H := hid h
    clear h h1 e1 e2 hT hp
    go_enter Try.func37, Try.ntmps37
    go_wp2_with fail
    refine cr.mono ?_
    rintro e w1 ⟨rfl, hT⟩
    have h1 := H.out.keep hT
    have c2 := Rx.robin h1 t1
    rw [h2] at c2
    have c3 := Rx.left h1 t1
    rw [hn] at c3
    have f3 := Rx.free h1 (65 + T)
    have h4 := Rx.keep (Rx.setLeft h1 t1 ((n : Int) - 1)) (Kp.drew _ [])
    have c5 := h4.left t1
    rw [updA_same] at c5
    have H4 := hid h4
    have K4 := hid (hT.nil.trans ((Kp.setCell w1 ⟨qb, 65 + T, none⟩ (.int .i64 ((n : Int) - 1))).trans (Kp.drew _ [qb])))
    have HN := hid hn
    have C5 := hid c5
    clear h1 h4 hT cr hn c5
    go_wp2_with fail
    go_region
    obtain ⟨m, hm⟩ : ∃ m, (n : Int) - 1 = m := ⟨_, rfl⟩
    rw [hm] at C5 H4 K4 h3' ⊢
    have HM := hid hm
    clear hw hm c2 c3 f3
    generalize World.drew (w1.setCell ⟨qb, 65 + T, none⟩ (.int .i64 m)) = W4 at C5 H4 K4 ⊢
    have c5 := C5.out
    go_wp2
    go_ret2
    refine ⟨rfl, ?_, K4.out⟩
    have h9 := H4.out
    rw [← HM.out] at h9
    rw [show ((n : Int) - 1) = ((n - 1 : Nat) : Int) by omega] at h9
    have h10 := Rx.congr (B' := updA (fun t => (S t).1) T true) h9 (fun _ _ => rfl) (fun t _ => by
        unfold updA
        by_cases e : t = T
        · rw [if_pos e, e]; exact h2
        · rw [if_neg e]) (fun _ _ => rfl)
    have h11 := rt_fill h10 (fun _ _ => rfl) (fun _ => rfl) (fun _ => rfl)
    exact h11
end
end Go.Proofs.Ytclbphnelfacfaa
