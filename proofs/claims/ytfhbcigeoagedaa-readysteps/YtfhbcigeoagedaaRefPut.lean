/- The reference: Put, Remove. -/
import Derived.Test.YtfhbcigeoagedaaRef
import Derived.Deep.RegionLaw
namespace Go.Proofs.Ytfhbcigeoagedaa
open Go.RowKit Go.Shelf

theorem Ns.one (W : World) (x : Nat) : Ns (W.alloc (.cells #[.int .i64 (x : Nat)] 3)) W.heap.size (.slice (some ⟨W.heap.size, 0, none⟩) 1 1) [x] :=
  ⟨⟨rfl, .inr ⟨W.heap.size, 1, _, rfl, Nat.le_refl _, heap_alloc_new W _, Nat.le_refl _, by unfold maxLen; omega, rfl, rfl⟩⟩, by simp⟩
theorem grown_over {W w' : World} {base : Nat} {V : Value} {l : List Nat} (hN : Ns W base V l) (hG : W.grownBy w' V.ownBlock) {w : World} (hk : Kp w W []) (hb : w.heap.size ≤ base) : Kp w w' [] :=
  hk.past (Kp.ofGrown (rows := V.ownBlock.toList) hG (by intro g hg; simp [hg])) (by
    intro g hg hl
    simp at hg
    have := (owns_block hN.1 hg).1
    omega)

set_option maxRecDepth 100000 in
theorem rput_err (w : World) (qb : Nat) (L : Ls) (p t : Int) (b : Bool) (h : Rq w qb L) (hl : ∀ p, (L p).length ≤ 1000) (he : putE L p t ≠ 0) : Calls Try.prog 23 #[.pointer (some ⟨qb, 0, none⟩), .int .i64 p, .int .i64 t, .bool b] w fun e w' => e = .returned (.int .i64 (putE L p t)) ∧ w' = w := by
  have cp := rprio_any w qb L t h hl
  rcases put_cases b L p t with ⟨ha, e1, -⟩ | ⟨P, T, rfl, rfl, p1, p2, t1, ⟨h0, e1, -⟩ | ⟨h0, e1, -⟩⟩
  · rw [e1]
    clear h hl he cp e1
    by_cases hp1 : p < 1
    · go_enter Try.func23, Try.ntmps23
      go_wp2
      go_ret
      exact ⟨rfl, rfl⟩
    by_cases hp2 : 31 < p
    · go_enter Try.func23, Try.ntmps23
      go_wp2
      go_ret
      exact ⟨rfl, rfl⟩
    by_cases ht1 : t < 0
    · go_enter Try.func23, Try.ntmps23
      go_wp2
      go_ret
      exact ⟨rfl, rfl⟩
    have ht2 : 16 ≤ t := by omega
    go_enter Try.func23, Try.ntmps23
    go_wp2
    go_ret
    exact ⟨rfl, rfl⟩
  · rw [e1]
    have hI : prI L (T : Int) = prN L T 31 := by unfold prI; rw [if_pos (by omega), Int.toNat_natCast]
    rw [hI, show decide (prN L T 31 ≠ 0) = true by simp [h0]] at cp
    clear h hl he e1 hI
    have q1 : ¬ (P : Int) < 1 := by omega
    have q2 : ¬ (31 : Int) < (P : Int) := by omega
    have q3 : ¬ (T : Int) < 0 := by omega
    have q4 : ¬ (16 : Int) ≤ (T : Int) := by omega
    go_enter Try.func23, Try.ntmps23
    go_wp2_with (go_at_call 29; refine cp.mono ?_; rintro e w' ⟨rfl, rfl⟩)
    go_ret
    exact ⟨rfl, rfl⟩
  · exact absurd e1 he

set_option maxRecDepth 100000 in
set_option maxHeartbeats 2000000 in
theorem rput_ok (w : World) (qb P T : Nat) (L : Ls) (b : Bool) (h : Rq w qb L) (hl : ∀ p, (L p).length ≤ 1000) (p1 : 1 ≤ P) (p2 : P ≤ 31) (t1 : T < 16) (h0 : prN L T 31 = 0) : Calls Try.prog 23 #[.pointer (some ⟨qb, 0, none⟩), .int .i64 P, .int .i64 T, .bool b] w fun e w' => e = .returned (.int .i64 0) ∧ Rq w' qb (updL L P (if b then T :: L P else L P ++ [T])) ∧ Kp w w' [qb] := by
  have cp := rprio_any w qb L T h hl
  have hI : prI L (T : Int) = prN L T 31 := by unfold prI; rw [if_pos (by omega), Int.toNat_natCast]
  rw [hI, h0] at cp
  have HQ := hid h
  obtain ⟨F, hF, hN⟩ := h
  have hNk := hN P (by omega)
  obtain ⟨ao, cap, hv⟩ := hNk.slice
  have cF := Rq.cell hF P (by omega)
  rw [hv] at cF hNk
  have HN := hid hNk
  have HF := hid hF
  have hlk := hl P
  have hqlt := lt_of_block hF
  have fr : ∀ (w' : World) (c : Array Value) (i : Nat), w'.heap[qb]? = some (.cells c 29 (0, 0)) → w'.frozen? ⟨qb, i, none⟩ = false := fun w' c i e => by simp [World.frozen?, e]
  have FR := hid fr
  clear hF hN hNk hv hI h0 hl fr
  have q1 : ¬ (P : Int) < 1 := by omega
  have q2 : ¬ (31 : Int) < (P : Int) := by omega
  have q3 : ¬ (T : Int) < 0 := by omega
  have q4 : ¬ (16 : Int) ≤ (T : Int) := by omega
  cases b with
  | true =>
    go_enter Try.func23, Try.ntmps23
    go_wp2_with (go_at_call 29; refine cp.mono ?_; rintro e w' ⟨rfl, rfl⟩)
    have hP32 : P < 32 := by omega
    have hP32' : (P : Int) < 32 := by omega
    have CK := hid (fun (w1 : World) (hk : Kp w' w1 []) => show w1.cell? ⟨qb, P, none⟩ = some (.slice ao (L P).length cap) ∧ w1.frozen? ⟨qb, P, none⟩ = false from ⟨hk.cell cF (by simp), FR.out w1 _ P ((hk.block qb hqlt (by simp)).trans HF.out)⟩)
    have N1 := hid (show Ns (World.drew (w'.alloc (.cells #[.int .i64 (T : Nat)] 3))) w'.heap.size (.slice (some ⟨w'.heap.size, 0, none⟩) 1 1) [T] from (Ns.one w' T).keep (Kp.drew _ []))
    have K1 := hid (show Kp w' (World.drew (w'.alloc (.cells #[.int .i64 (T : Nat)] 3))) [] from (Kp.alloc w' _ []).trans (Kp.drew _ []))
    go_region_law
      ((refine step_join (by rfl) _ _ (by rfl) 45 (by rfl) w'.heap.size 0 _ _ [T] (L P) (by rfl) N1.out (by rfl) (HN.out.keep K1.out) (by simp) (by omega) (by have := K1.out.size; exact this) ?_; intro v2 w2 hN2 hG2; obtain ⟨ao2, cp2, rfl⟩ := hN2.slice; have K2 := grown_over N1.out hG2 K1.out (Nat.le_refl _); obtain ⟨c2, f2⟩ := CK.out _ K2))
    all_goals (
      have hV : Ns w2 0 (.slice ao2 ((L P).length + 1) cp2) (T :: L P) := by simpa using hN2.low (Nat.zero_le _)
      have HS := hid (HQ.out.set K2 hP32 hV)
      clear hN2 hG2 K2 c2 f2 hV
      go_wp2
      go_ret
      exact ⟨rfl, HS.out.1, HS.out.2⟩)
  | false =>
    go_enter Try.func23, Try.ntmps23
    go_wp2_with (go_at_call 29; refine cp.mono ?_; rintro e w' ⟨rfl, rfl⟩)
    have hP32 : P < 32 := by omega
    have hP32' : (P : Int) < 32 := by omega
    have CK := hid (fun (w1 : World) (hk : Kp w' w1 []) => show w1.cell? ⟨qb, P, none⟩ = some (.slice ao (L P).length cap) ∧ w1.frozen? ⟨qb, P, none⟩ = false from ⟨hk.cell cF (by simp), FR.out w1 _ P ((hk.block qb hqlt (by simp)).trans HF.out)⟩)
    have N1 := hid (show Ns (World.drew (w'.alloc (.cells #[.int .i64 (T : Nat)] 3))) w'.heap.size (.slice (some ⟨w'.heap.size, 0, none⟩) 1 1) [T] from (Ns.one w' T).keep (Kp.drew _ []))
    have K1 := hid (show Kp w' (World.drew (w'.alloc (.cells #[.int .i64 (T : Nat)] 3))) [] from (Kp.alloc w' _ []).trans (Kp.drew _ []))
    go_region_law
      (first
        | (have _hh := ka; refine step_join (by rfl) _ _ (by rfl) 60 (by rfl) w'.heap.size 0 _ _ (L P) [T] (by rfl) (hNa.keep (Kp.alloc wa _ [])) (by rfl) ((Ns.one wa T).low (Nat.zero_le _)) (by omega) (by simp) (by have := ka.size; simp; omega) ?_; intro v2 w2 hN2 hG2; obtain ⟨ao2, cp2, rfl⟩ := hN2.slice; have K2 := grown_over (hNa.keep (Kp.alloc wa _ [])) hG2 (ka.trans (Kp.alloc wa _ [])) (Nat.le_refl _); obtain ⟨c2, f2⟩ := CK.out _ K2)
        | (have _hh := kb; refine step_join (by rfl) _ _ (by rfl) 60 (by rfl) w'.heap.size 0 _ _ (L P) [T] (by rfl) hNb (by rfl) ((N1.out.keep kb').low (Nat.zero_le _)) (by omega) (by simp) (by have := kb.size; omega) ?_; intro v2 w2 hN2 hG2; obtain ⟨ao2, cp2, rfl⟩ := hN2.slice; have K2 := grown_over hNb hG2 kb (Nat.le_refl _); obtain ⟨c2, f2⟩ := CK.out _ K2)
        | (refine step_join (by rfl) _ _ (by rfl) 57 (by rfl) w'.heap.size 0 _ _ [] (L P) (by rfl) (Ns.nil _ _) (by rfl) (HN.out.keep (Kp.drew w' [])) (by simp) (by omega) (Nat.le_refl _) ?_; intro v1 wa hNa hGa; rw [List.nil_append] at hNa; obtain ⟨ao1, cp1, rfl⟩ := hNa.slice; have ka : Kp w' wa [] := (Kp.drew w' []).trans (Kp.ofGrown hGa (by intro g hg; simp [Value.ownBlock] at hg)); obtain ⟨c1, f1⟩ := CK.out _ ka)
        | (refine step_join (by rfl) _ _ (by rfl) 57 (by rfl) w'.heap.size 0 _ _ [] (L P) (by rfl) (Ns.nil _ _) (by rfl) (HN.out.keep K1.out) (by simp) (by omega) (by have := K1.out.size; exact this) ?_; intro v1 wb hNb hGb; rw [List.nil_append] at hNb; obtain ⟨ao1, cp1, rfl⟩ := hNb.slice; have kb' : Kp (World.drew (w'.alloc (.cells #[.int .i64 (T : Nat)] 3))) wb [] := Kp.ofGrown hGb (by intro g hg; simp [Value.ownBlock] at hg); have kb := K1.out.trans kb'; obtain ⟨c1, f1⟩ := CK.out _ kb))
    all_goals (
      have hV : Ns w2 0 (.slice ao2 ((L P).length + 1) cp2) (L P ++ [T]) := by simpa using hN2.low (Nat.zero_le _)
      have HS := hid (HQ.out.set K2 hP32 hV)
      clear hN2 hG2 K2 c2 f2 hV
      go_wp2
      go_ret
      exact ⟨rfl, HS.out.1, HS.out.2⟩)
end Go.Proofs.Ytfhbcigeoagedaa
