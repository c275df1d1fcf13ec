/- All: handOn goes up. -/
import Derived.Test.YtomdnppnabncaaaHand
namespace Go.Proofs.Ytomdnppnabncaaa
open Go.RowKit Go.Shelf
open Go.Lib hiding intOf

/-- What handOn leaves. -/
def Hd (w w' : World) (g xb n m : Nat) (G : Gs) : Prop := ∃ L, Nw w w' g xb n L ∧ Way G L ∧ Edges G L m
set_option maxRecDepth 100000 in
set_option maxHeartbeats 2000000 in
theorem hand_any (w W : World) (gb g xb n m : Nat) (G : Gs) (L : List Int) (t : Nat) (x : Int) (h : Nw w W g xb n L) (hr : Gr0 w gb G) (hn : G.n = n) (hW : Way G L) (ht : t < n) (hx : L[t]! = x) (hm : m ≤ n) (hE : Edg G L m t) :
    Calls Try.prog 28 #[.pointer (some ⟨gb, 0, none⟩), .int .i64 t, .int .i64 x, .func (.func 27) #[] #[.pointer (some ⟨xb, 0, none⟩)]] W fun e w' => (∃ v, e = .returned v) ∧ Hd w w' g xb n m G := by
  have hn16 : n ≤ 16 := by have := hr.ok.n2; omega
  have hnI : (n : Int) ≤ 16 := by omega
  have HR := hid hr
  have HN := hid hn
  have H0 := hid (show Nw w W g xb n L ∧ Way G L ∧ L[t]! = x ∧ Edg G L m t from ⟨h, hW, hx, hE⟩)
  have HM := hid hm
  clear h hr hn hW hx hm hE
  go_enter Try.func28, Try.ntmps28
  go_wp2_with fail
  go_step3
  go_wp2_with fail
  go_step3
  go_wp2_with fail
  go_loopw [1] (fun vt wr => ∃ (u : Nat) (M : List Int), u < n ∧ vt = .int .i64 u ∧ Hid (Nw w wr g xb n M ∧ Way G M ∧ M[u]! = x ∧ Edg G M m u)) (fun _ wr => gapOf wr g n)
  case atStart => exact ⟨t, L, ht, rfl, H0⟩
  case round =>
    obtain ⟨u, M, hu, rfl, hR⟩ := hrel
    have hgr := HR.out.still hR.out.1.kp
    have cw := hgr.wt (t := u) (by rw [HN.out]; exact hu)
    have hbx := HR.out.ok.wt u (by rw [HN.out]; exact hu)
    have huI : (u : Int) < 16 := by omega
    rw [HN.out] at hbx
    obtain ⟨y, hy⟩ : ∃ y, G.w u = y := ⟨_, rfl⟩
    rw [hy] at cw hbx
    have HY := hid hy
    clear hgr hy
    by_cases hy0 : y = -1
    · have hyq : (y == -1) = true := by simp [hy0]
      have R2 := hid (show Hd w wr g xb n m G from ⟨M, hR.out.1, hR.out.2.1, hR.out.2.2.2.all (fun q => by rw [HY.out] at q; omega)⟩)
      clear hR hy0
      go_wp2_with fail
      rw [Exit.noGoto_normal]
      refine bodyPost_end (results_none rfl _ _ _) rfl ?_
      exact ⟨⟨_, rfl⟩, R2.out⟩
    · have hyq : (y == -1) = false := by simp [hy0]
      obtain ⟨v, rfl⟩ : ∃ v : Nat, y = v := ⟨y.toNat, by omega⟩
      have hv : v < n := by omega
      have hC := raise_any w wr g xb n M v x hR.out.1 hv hn16
      have hv2 : v < M.length := by have := hR.out.1.len; omega
      obtain ⟨z, hz⟩ : ∃ z, M[v]! = z := ⟨_, rfl⟩
      rw [hz] at hC
      have HZ := hid hz
      have HV := hid hv2
      clear hy0 hz hv2
      by_cases hlt : z < x
      · have e1 : decide (z < x) = true := by simp [hlt]
        rw [e1, show max z x = x by omega] at hC
        have HC := hid hC
        have R2 := hid (show Way G (M.set v x) ∧ gap (M.set v x) < gap M ∧ (M.set v x)[v]! = x ∧ Edg G (M.set v x) m v from by
          have q1 := hR.out.2.1.raise HR.out.ok (t := u) (by rw [HN.out]; exact hu) (by rw [HY.out]; omega) (by rw [HY.out, Int.toNat_natCast, HZ.out, hR.out.2.2.1]; exact hlt)
          have q2 := hR.out.2.2.2.raise HR.out.ok (by rw [HN.out]; exact HM.out) hR.out.2.1.len (by rw [HN.out]; exact hu) HY.out (by rw [HZ.out, hR.out.2.2.1]; exact hlt)
          rw [HY.out, Int.toNat_natCast, hR.out.2.2.1] at q1
          rw [hR.out.2.2.1] at q2
          exact ⟨q1.1, q1.2, by rw [set_get HV.out, if_pos rfl], q2⟩)
        have HG := hid hR.out.1.gap
        clear hC e1 hR
        go_wp2_with (first | (refine HC.out.mono ?_; rintro e w2 ⟨rfl, hN2⟩; have HN2 := hid hN2; clear hN2))
        refine ⟨⟨v, _, hv, rfl, hid ⟨HN2.out, R2.out.1, R2.out.2.2.1, R2.out.2.2.2⟩⟩, ?_⟩
        rw [HN2.out.gap, HG.out]
        exact R2.out.2.1
      · have e1 : decide (z < x) = false := by simp; omega
        have e2 : M.set v z = M := by
          rw [← HZ.out]
          apply List.ext_getElem
          · simp
          · intro i h1 h2
            rw [List.getElem_set]
            split
            · rename_i q
              subst q
              rw [getElem!_pos M _ h2]
            · rfl
        rw [e1, show max z x = z by omega, e2] at hC
        have HC := hid hC
        have R2 := hid (show Way G M ∧ Edges G M m from ⟨hR.out.2.1, hR.out.2.2.2.all (fun _ => by
          rw [HY.out, Int.toNat_natCast, HZ.out, hR.out.2.2.1]
          omega)⟩)
        clear hC e1 e2 hR
        go_wp2_with (first | (refine HC.out.mono ?_; rintro e w2 ⟨rfl, hN2⟩; have HN2 := hid hN2; clear hN2))
        rw [Exit.noGoto_normal]
        refine bodyPost_end (results_none rfl _ _ _) rfl ?_
        exact ⟨⟨_, rfl⟩, _, HN2.out, R2.out⟩
end Go.Proofs.Ytomdnppnabncaaa
