/- Ring. -/
import Derived.Test.YtomdnppnabncaaaAll
namespace Go.Proofs.Ytomdnppnabncaaa
open Go.RowKit Go.Shelf
open Go.Lib hiding intOf

theorem ns_one (w : World) (x : Int) : Ns (w.alloc (.cells #[.int .i64 x] 3)) w.heap.size (.slice (some ⟨w.heap.size, 0, none⟩) 1 1) [x] :=
  ⟨rfl, .inr ⟨w.heap.size, 1, #[.int .i64 x], rfl, Nat.le_refl _, World.alloc_heap_new w _, Nat.le_refl _, by unfold maxLen; omega, rfl, rfl⟩⟩
set_option maxRecDepth 100000 in
theorem ring_zero (w : World) (p : Option Addr) (t : Int) (h : Zg0 w p) : Calls Try.prog 14 #[.pointer p, .int .i64 t] w fun e w' => (∃ v, e = .returned (.tuple #[v, .bool false])) ∧ Kp w w' [] := by
  have HZ := hid (may_zero w p t h)
  clear h
  go_enter Try.func14, Try.ntmps14
  go_wp2_with (first | (go_at_call 29; refine HZ.out.mono ?_; rintro e w1 ⟨rfl, rfl⟩))
  go_ret2
  exact ⟨⟨_, rfl⟩, Kp.refl _ _⟩
set_option maxRecDepth 100000 in
theorem ring_no (w : World) (gb : Nat) (G : Gs) (t : Int) (h : Gr0 w gb G) (ht : ¬ mayT G t) : Calls Try.prog 14 #[.pointer (some ⟨gb, 0, none⟩), .int .i64 t] w fun e w' => (∃ v b, e = .returned (.tuple #[v, .bool b]) ∧ RgV G t w' w.heap.size v b) ∧ Kp w w' [] := by
  have CM := may_any w gb G t h
  rw [show decide (mayT G t) = false by simp [ht]] at CM
  have HM := hid CM
  have HT := hid ht
  clear CM h ht
  go_enter Try.func14, Try.ntmps14
  go_wp2_with (first | (go_at_call 29; refine HM.out.mono ?_; rintro e w1 ⟨rfl, rfl⟩))
  go_ret2
  exact ⟨⟨_, _, rfl, [], ⟨fun q => (HT.out q).elim, fun _ => ⟨rfl, rfl⟩⟩, Ns.nil _ _⟩, Kp.refl _ _⟩
set_option maxRecDepth 100000 in
set_option maxHeartbeats 2000000 in
theorem ring_yes (w : World) (gb : Nat) (G : Gs) (t : Nat) (h : Gr0 w gb G) (ht : t < G.n) : Calls Try.prog 14 #[.pointer (some ⟨gb, 0, none⟩), .int .i64 t] w fun e w' => (∃ v b, e = .returned (.tuple #[v, .bool b]) ∧ RgV G t w' w.heap.size v b) ∧ Kp w w' [] := by
  have hmay : mayT G t := ⟨by omega, by omega⟩
  have CM := may_any w gb G t h
  rw [show decide (mayT G t) = true by simp [hmay]] at CM
  obtain ⟨n, hn⟩ : ∃ n, G.n = n := ⟨_, rfl⟩
  have h1 := h.ok.n1
  have h2 := h.ok.n2
  have cw := h.wt ht
  rw [hn] at h1 h2 ht
  have h2' : (n : Int) ≤ 16 := by omega
  have ht6 : (t : Int) < 16 := by omega
  have htI : (t : Int) < n := by omega
  have hlt := h.c.lt
  have hne : gb ≠ w.heap.size := by omega
  have HM := hid CM
  have HR := hid h
  have HN := hid hn
  have HT := hid hmay
  have HV := hid (show ∀ (v : Value) (b : Bool) (W : World) (L : List Int), Rg G t L b → Ns W w.heap.size v L → RgV G t W w.heap.size v b from fun v b W L a b' => ⟨L, ⟨fun _ => by rw [Int.toNat_natCast]; exact a, fun q => (q hmay).elim⟩, b'⟩)
  have H0 := hid (ns_one w t)
  clear h hn CM hmay
  obtain ⟨x0, hx0⟩ : ∃ x, G.w t = x := ⟨_, rfl⟩
  rw [hx0] at cw
  have HX0 := hid (show it G.w 1 t = x0 from (it_next (k := 0) rfl).trans hx0)
  clear hx0
  go_enter Try.func14, Try.ntmps14
  go_wp2_with (first | (go_at_call 29; refine HM.out.mono ?_; rintro e w1 ⟨rfl, hw1⟩; obtain rfl := hw1.symm; clear hw1))
  clear cw
  go_loopw [6, 7] (fun vl va wr => ∃ (k : Nat) (y : Int) (ao : Option Addr) (cap : Nat), 1 ≤ k ∧ k ≤ n ∧ vl = .slice ao k cap ∧ va = .int .i64 y ∧ Hid (it G.w k t = y ∧ (∀ j, 0 < j → j < k → it G.w j t ≠ (t : Int)) ∧ Ns wr w.heap.size (.slice ao k cap) (rowK G.w t k) ∧ Kp w wr [])) (fun vl _ _ => match vl with | .slice _ k _ => n - k | _ => 0)
  case atStart => exact ⟨1, x0, _, _, by omega, by omega, rfl, rfl, hid ⟨HX0.out, fun j j0 j1 => by omega, H0.out, Kp.alloc _ _ _⟩⟩
  case round =>
    obtain ⟨k, y, ao, cap, hk1, hk, rfl, rfl, hR⟩ := hrel
    have hr := HR.out.still hR.out.2.2.2
    have c0 := hr.c.cnt
    rw [HN.out] at c0
    clear hr
    by_cases hyt : y = t
    · have hq : (y != (t : Int)) = false := by simp [hyt]
      have R2 := hid (show RgV G t wr w.heap.size (.slice ao k cap) true ∧ Kp w wr [] from ⟨HV.out _ _ _ _ (.inl ⟨rfl, k, by omega, hR.out.1.trans hyt, hR.out.2.1, rfl⟩) hR.out.2.2.1, hR.out.2.2.2⟩)
      clear hR hyt
      go_wp2_with fail
      go_ret2
      exact ⟨⟨_, _, rfl, R2.out.1⟩, R2.out.2⟩
    · have hq : (y != (t : Int)) = true := by simp [hyt]
      have hbd := it_bd HR.out.ok.wt (s := t) (by rw [HN.out]; exact ht) k
      rw [hR.out.1, HN.out] at hbd
      by_cases hy0 : y = -1
      · have hyq : (y == -1) = true := by simp [hy0]
        have R2 := hid (show RgV G t wr w.heap.size (.slice none 0 0) false ∧ Kp w wr [] from ⟨HV.out _ _ _ [] (.inr ⟨rfl, rfl, noRing_neg (k := k) (by rw [hR.out.1]; omega) hR.out.2.1⟩) (Ns.nil _ _), hR.out.2.2.2⟩)
        clear hR hyt hy0
        go_wp2_with fail
        go_ret2
        exact ⟨⟨_, _, rfl, R2.out.1⟩, R2.out.2⟩
      · have hyq : (y == -1) = false := by simp [hy0]
        by_cases hkn : k = n
        · have hkq : ((k : Int) == (n : Int)) = true := by simp [hkn]
          have R2 := hid (show RgV G t wr w.heap.size (.slice none 0 0) false ∧ Kp w wr [] from ⟨HV.out _ _ _ [] (.inr ⟨rfl, rfl, noRing_of HR.out.ok (by rw [HN.out]; exact ht) (fun j j0 j1 => by
            rw [HN.out] at j1
            by_cases e : j < k
            · exact hR.out.2.1 j j0 e
            · rw [show j = k by omega, hR.out.1]; exact hyt)⟩) (Ns.nil _ _), hR.out.2.2.2⟩)
          clear hR hyt hy0 hkn
          go_wp2_with fail
          go_ret2
          exact ⟨⟨_, _, rfl, R2.out.1⟩, R2.out.2⟩
        · have hkq : ((k : Int) == (n : Int)) = false := by simp; omega
          obtain ⟨u, rfl⟩ : ∃ u : Nat, y = u := ⟨y.toNat, by omega⟩
          have hu : u < n := by omega
          have hu6 : (u : Int) < 16 := by omega
          obtain ⟨x, hx⟩ : ∃ x, G.w u = x := ⟨_, rfl⟩
          have HX := hid (show it G.w (k + 1) t = x from (it_next hR.out.1).trans hx)
          have HBK := hid (show (rowK G.w t k).length ≤ 100000 by rw [rowK_len]; omega)
          have HU := hid hR.out.1
          have HX2 := hid hx
          have HJ := hid (show ∀ j, 0 < j → j < k + 1 → it G.w j t ≠ (t : Int) from fun j j0 j1 => by
            by_cases e : j < k
            · exact hR.out.2.1 j j0 e
            · rw [show j = k by omega, hR.out.1]; exact hyt)
          clear hyt hy0 hx
          go_wp2_with (refine wpList_pushI rfl (.tmp 42) (.tmp 44) rfl w.heap.size (.slice ao k cap) (rowK G.w t k) u _ rfl (hR.out.2.2.1.keep (Kp.alloc _ _ _)) rfl (by simp) HBK.out (by have := hR.out.2.2.2.size; simp; omega) ?_; intro v3 w3 hN3 hG3; have K3 := hid (show Kp w w3 [] from grown_own (hR.out.2.2.1.keep (Kp.alloc _ _ _)) hG3 (hR.out.2.2.2.trans (Kp.alloc _ _ _)) (Nat.le_refl _)); obtain ⟨a3, c3, hv3⟩ := hN3.slice; rw [show (rowK G.w t k ++ [(u : Int)]).length = k + 1 by simp [rowK_len]] at hv3; have hN3' := hN3; rw [← HU.out, ← rowK_step] at hN3'; have N3 := hid hN3'; subst hv3; have c7 : w3.cell? ⟨gb, 1 + u * 3 + 2, none⟩ = some (.int .i64 x) := (HX2.out ▸ (HR.out.still K3.out).wt (by rw [HN.out]; exact hu)); clear hN3 hG3 hN3')
          go_roundw
          case rel => exact ⟨k + 1, x, a3, c3, by omega, by omega, rfl, rfl, hid ⟨HX.out, HJ.out, N3.out, K3.out⟩⟩
          case measure => simp; omega
theorem ring0 (w : World) (gb : Nat) (G : Gs) (t : Int) (h : Gr0 w gb G) : Calls Try.prog 14 #[.pointer (some ⟨gb, 0, none⟩), .int .i64 t] w fun e w' => (∃ v b, e = .returned (.tuple #[v, .bool b]) ∧ RgV G t w' w.heap.size v b) ∧ Kp w w' [] := by
  by_cases ht : mayT G t
  · obtain ⟨t, rfl⟩ : ∃ k : Nat, t = k := ⟨t.toNat, by have := ht.1; omega⟩
    exact ring_yes w gb G t h (by have := ht.2; omega)
  · exact ring_no w gb G t h ht
end Go.Proofs.Ytomdnppnabncaaa
