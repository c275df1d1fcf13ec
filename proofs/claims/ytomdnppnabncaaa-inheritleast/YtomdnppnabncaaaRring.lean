/- The reference's Ring. -/
import Derived.Test.YtomdnppnabncaaaRall
namespace Go.Proofs.Ytomdnppnabncaaa
open Go.RowKit Go.Shelf
open Go.Lib hiding intOf

/-- The first k threads of the row of waiting ones from t on. -/
def rowK (w : Nat → Int) (t k : Nat) : List Int := (List.range k).map fun j => it w j t
theorem rowK_len (w : Nat → Int) (t k : Nat) : (rowK w t k).length = k := by simp [rowK]
theorem rowK_step (w : Nat → Int) (t k : Nat) : rowK w t (k + 1) = rowK w t k ++ [it w k t] := by simp [rowK, List.range_succ]
/-- A slice of what Ring tells. -/
def RgN (G : Gs) (t : Nat) (w : World) (base : Nat) (v : Value) : Prop := ∃ L b, Rg G t L b ∧ Ns w base v L
theorem it_next {w : Nat → Int} {k t u : Nat} (h : it w k t = (u : Int)) : it w (k + 1) t = w u := by
  show (if it w k t < 0 then it w k t else w (it w k t).toNat) = w u
  rw [h, if_neg (by omega), Int.toNat_natCast]
set_option maxRecDepth 100000 in
set_option maxHeartbeats 2000000 in
theorem rring_any (w : World) (rb : Nat) (G : Gs) (t : Nat) (h : Rr w rb G) (hG : Gok G) (ht : t < G.n) : Calls Try.prog 25 #[.pointer (some ⟨rb, 0, none⟩), .int .i64 t] w fun e w' => (∃ v, e = .returned v ∧ RgN G t w' w.heap.size v) ∧ Kp w w' [] := by
  obtain ⟨n, hn⟩ : ∃ n, G.n = n := ⟨_, rfl⟩
  have h1 := hG.n1
  have h2 := hG.n2
  rw [hn] at h1 h2 ht
  have h2' : (n : Int) ≤ 16 := by omega
  have htI : (t : Int) < n := by omega
  have hrb : rb < w.heap.size := h.lt
  have HR := hid h
  have HG := hid hG
  have HN := hid hn
  clear h hG hn
  go_enter Try.func25, Try.ntmps25
  go_wp2_with fail
  go_loopw [5, 6] (fun vl va wr => ∃ (k u : Nat) (ao : Option Addr) (cap : Nat), k ≤ n + 1 ∧ u < n ∧ vl = .slice ao k cap ∧ va = .int .i64 u ∧ Hid (it G.w k t = (u : Int) ∧ (∀ j, 0 < j → j ≤ k → it G.w j t ≠ (t : Int)) ∧ Ns wr w.heap.size (.slice ao k cap) (rowK G.w t k) ∧ Kp w wr [])) (fun vl _ _ => match vl with | .slice _ k _ => n + 1 - k | _ => 0)
  case atStart => exact ⟨0, t, none, 0, by omega, ht, rfl, rfl, hid ⟨rfl, fun j j0 j1 => by omega, Ns.nil _ _, Kp.refl _ _⟩⟩
  case round =>
    obtain ⟨k, u, ao, cap, hk, hu, rfl, rfl, hR⟩ := hrel
    have hr := HR.out.same hR.out.2.2.2
    have c0 := hr.n
    rw [HN.out] at c0
    have HRR := hid hr
    clear hr
    by_cases hlt : k ≤ n
    · have hltI : (k : Int) ≤ n := by omega
      have cw := HRR.out.wt (t := u) (by omega)
      have hbx := HG.out.wt u (by rw [HN.out]; exact hu)
      rw [HN.out] at hbx
      obtain ⟨x, hx⟩ : ∃ x, G.w u = x := ⟨_, rfl⟩
      rw [hx] at hbx
      have HX := hid (show it G.w (k + 1) t = x from (it_next hR.out.1).trans hx)
      have HBK := hid (show (rowK G.w t k).length ≤ 100000 by rw [rowK_len]; omega)
      have HU := hid hR.out.1
      clear cw
      by_cases hxt : x = t
      · have hq : (x == (t : Int)) = true := by simp [hxt]
        have HT := hid (show IsRing G.w t (rowK G.w t (k + 1)) from ⟨k + 1, by omega, HX.out.trans hxt, fun j j0 j1 => hR.out.2.1 j j0 (by omega), rfl⟩)
        clear hxt
        go_wp2_with (refine wpList_pushI rfl (.tmp 15) (.tmp 17) rfl w.heap.size (.slice ao k cap) (rowK G.w t k) u _ rfl (hR.out.2.2.1.keep (Kp.alloc _ _ _)) rfl (by simp) HBK.out (by have := hR.out.2.2.2.size; simp; omega) ?_; intro v3 w3 hN3 hG3; have K3 := hid (show Kp w w3 [] from grown_own (hR.out.2.2.1.keep (Kp.alloc _ _ _)) hG3 (hR.out.2.2.2.trans (Kp.alloc _ _ _)) (Nat.le_refl _)); obtain ⟨a3, c3, hv3⟩ := hN3.slice; rw [show (rowK G.w t k ++ [(u : Int)]).length = k + 1 by simp [rowK_len]] at hv3; have hN3' := hN3; rw [← HU.out, ← rowK_step] at hN3'; have N3 := hid hN3'; subst hv3; have c7 : w3.cell? ⟨rb, 33 + u, none⟩ = some (.int .i64 x) := (hx ▸ (HR.out.same K3.out).wt (by omega)); clear hN3 hG3 hN3')
        go_ret
        exact ⟨⟨_, rfl, _, true, .inl ⟨rfl, HT.out⟩, N3.out⟩, K3.out⟩
      · have hq : (x == (t : Int)) = false := by simp [hxt]
        have HNT := hid (show ∀ j, 0 < j → j ≤ k + 1 → it G.w j t ≠ (t : Int) from fun j j0 j1 => by
          by_cases e : j = k + 1
          · rw [e, HX.out]; exact hxt
          · exact hR.out.2.1 j j0 (by omega))
        clear hxt
        by_cases hx0 : x < 0
        · have HT := hid (show NoRing G.w t from noRing_neg (k := k + 1) (by rw [HX.out]; exact hx0) (fun j j0 j1 => HNT.out j j0 (by omega)))
          go_wp2_with (refine wpList_pushI rfl (.tmp 15) (.tmp 17) rfl w.heap.size (.slice ao k cap) (rowK G.w t k) u _ rfl (hR.out.2.2.1.keep (Kp.alloc _ _ _)) rfl (by simp) HBK.out (by have := hR.out.2.2.2.size; simp; omega) ?_; intro v3 w3 hN3 hG3; have K3 := hid (show Kp w w3 [] from grown_own (hR.out.2.2.1.keep (Kp.alloc _ _ _)) hG3 (hR.out.2.2.2.trans (Kp.alloc _ _ _)) (Nat.le_refl _)); obtain ⟨a3, c3, hv3⟩ := hN3.slice; rw [show (rowK G.w t k ++ [(u : Int)]).length = k + 1 by simp [rowK_len]] at hv3; have hN3' := hN3; rw [← HU.out, ← rowK_step] at hN3'; have N3 := hid hN3'; subst hv3; have c7 : w3.cell? ⟨rb, 33 + u, none⟩ = some (.int .i64 x) := (hx ▸ (HR.out.same K3.out).wt (by omega)); clear hN3 hG3 hN3')
          go_ret
          exact ⟨⟨_, rfl, [], false, .inr ⟨rfl, rfl, HT.out⟩, Ns.nil _ _⟩, K3.out⟩
        · go_wp2_with (refine wpList_pushI rfl (.tmp 15) (.tmp 17) rfl w.heap.size (.slice ao k cap) (rowK G.w t k) u _ rfl (hR.out.2.2.1.keep (Kp.alloc _ _ _)) rfl (by simp) HBK.out (by have := hR.out.2.2.2.size; simp; omega) ?_; intro v3 w3 hN3 hG3; have K3 := hid (show Kp w w3 [] from grown_own (hR.out.2.2.1.keep (Kp.alloc _ _ _)) hG3 (hR.out.2.2.2.trans (Kp.alloc _ _ _)) (Nat.le_refl _)); obtain ⟨a3, c3, hv3⟩ := hN3.slice; rw [show (rowK G.w t k ++ [(u : Int)]).length = k + 1 by simp [rowK_len]] at hv3; have hN3' := hN3; rw [← HU.out, ← rowK_step] at hN3'; have N3 := hid hN3'; subst hv3; have c7 : w3.cell? ⟨rb, 33 + u, none⟩ = some (.int .i64 x) := (hx ▸ (HR.out.same K3.out).wt (by omega)); clear hN3 hG3 hN3')
          go_roundw
          case rel => exact ⟨k + 1, x.toNat, _, _, by omega, by omega, rfl, by rw [show ((x.toNat : Nat) : Int) = x by omega], hid ⟨by rw [HX.out]; omega, HNT.out, N3.out, K3.out⟩⟩
          case measure => simp only []; omega
    · have hltI : ¬ (k : Int) ≤ n := by omega
      have HT := hid (show NoRing G.w t from noRing_of HG.out (by rw [HN.out]; exact ht) (fun j j0 j1 => hR.out.2.1 j j0 (by have := HN.out; omega)))
      have HK := hid hR.out.2.2.2
      clear hR
      go_wp2_with fail
      go_ret
      exact ⟨⟨_, rfl, [], false, .inr ⟨rfl, rfl, HT.out⟩, Ns.nil _ _⟩, HK.out⟩
end Go.Proofs.Ytomdnppnabncaaa
