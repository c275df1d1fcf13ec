/- All and Of. -/
import Derived.Test.YtomdnppnabncaaaOn
namespace Go.Proofs.Ytomdnppnabncaaa
open Go.RowKit Go.Shelf
open Go.Lib hiding intOf

theorem nw_first {w w1 : World} {n : Nat} (h : Al w w1 n (List.replicate n 0)) : Nw w (w1.alloc (.cells #[.slice (some ⟨w.heap.size, 0, none⟩) n n] 35)) w.heap.size w1.heap.size n (List.replicate n 0) :=
  ⟨h.1.keep (Kp.alloc _ _ _), World.alloc_heap_new w1 _, h.2.1.size, h.2.1.trans (Kp.alloc _ _ _), h.2.2⟩
set_option maxRecDepth 100000 in
set_option maxHeartbeats 2000000 in
theorem all0 (w : World) (gb : Nat) (G : Gs) (h : Gr0 w gb G) : Calls Try.prog 13 #[.pointer (some ⟨gb, 0, none⟩)] w fun e w' => (∃ v, e = .returned v ∧ EfV G w' w.heap.size v) ∧ Kp w w' [] := by
  obtain ⟨i0, hi, hz0, hz1, hz2⟩ := info_parts Try.infoI
  obtain ⟨n, hn⟩ : ∃ n, G.n = n := ⟨_, rfl⟩
  have h1 := h.ok.n1
  have h2 := h.ok.n2
  have c0 := h.c.cnt
  rw [hn] at h1 h2 c0
  have h1' : (1 : Int) ≤ n := by omega
  have h2' : (n : Int) ≤ 16 := by omega
  have hlt := h.c.lt
  have hne : gb ≠ w.heap.size := by omega
  have HZ := hid (zero_no w gb G h)
  have HR := hid h
  have HN := hid hn
  clear h hn
  go_enter Try.func13, Try.ntmps13
  go_wp2_with (first | (go_at_call 26; refine HZ.out.mono ?_; rintro e w1 ⟨rfl, hw1⟩; obtain rfl := hw1.symm; clear hw1) | (refine wpList_make_full _ rfl _ _ 35 rfl _ 3 i0 (.int .i64 0) 1 Try.underlying35 hi hz0 hz1 .i64 .i64 n n n rfl rfl rfl rfl (by rw [hz2]; omega) (by unfold maxLen; omega) (Nat.le_refl _) ?_; intro w1 hown hg; have HA := hid (nw_first ⟨made_ints hown, Kp.ofGrown hg (by simp), by simp⟩); have hsz1 := hg.size; clear hown hg))
  clear c0
  go_loopw [16] (fun vi wr => ∃ (k : Nat) (L : List Int), k ≤ n ∧ vi = .int .i64 k ∧ Hid (Nw w wr w.heap.size w1.heap.size n L ∧ ∀ t, t < k → L[t]! = ownP G t)) (fun vi _ => n - (intOf vi).toNat)
  case atStart => exact ⟨0, _, Nat.zero_le _, rfl, hid ⟨HA.out, fun t ht => by omega⟩⟩
  case round =>
    obtain ⟨k, L, hk, rfl, hR⟩ := hrel
    have hr := HR.out.still hR.out.1.kp
    have cx := hR.out.1.box
    by_cases hlt2 : k < n
    · have hltI : (k : Int) < n := by omega
      have hk16 : (k : Int) < 16 := by omega
      have cb := hr.c.bs (t := k) (by omega)
      have cc := hr.c.cs (t := k) (by omega)
      obtain ⟨ca, fa⟩ := hR.out.1.at hlt2
      have R2 := hid (show Nw w (wr.drew.setCell ⟨w.heap.size, k, none⟩ (.int .i64 (max (G.b k) (G.c k)))) w.heap.size w1.heap.size n (L.set k (ownP G k)) ∧ ∀ t, t < k + 1 → (L.set k (ownP G k))[t]! = ownP G t from
        ⟨hR.out.1.drew.put k _, fun t ht => by
          have hl := hR.out.1.len
          rw [set_get (by omega)]
          split
          · rename_i e; rw [e]
          · exact hR.out.2 t (by omega)⟩)
      clear hr hR
      go_wp2_with fail
      go_region
      go_wp2_with fail
      go_roundw
      case rel => exact ⟨k + 1, _, by omega, by simp, R2⟩
      case measure => simp [intOf]; omega
    · have hltI : ¬ (k : Int) < n := by omega
      have e : k = n := by omega
      have HW := hid (show Nw w wr w.heap.size w1.heap.size n L ∧ Way G L from ⟨hR.out.1, way_own (by rw [HN.out]; exact hR.out.1.len) (fun t ht => hR.out.2 t (by have := HN.out; omega))⟩)
      clear hr hR hlt2 e hk
      go_wp2_with fail
      clear hltI cx
      go_loopw [41] (fun vi wq => ∃ (k : Nat) (M : List Int), k ≤ n ∧ vi = .int .i64 k ∧ Hid (Nw w wq w.heap.size w1.heap.size n M ∧ Way G M ∧ Edges G M k)) (fun vi _ => n - (intOf vi).toNat)
      case atStart => exact ⟨0, L, Nat.zero_le _, rfl, hid ⟨HW.out.1, HW.out.2, fun s hs => by omega⟩⟩
      case round =>
        obtain ⟨k, M, hk, rfl, hM⟩ := hrel
        have cx := hM.out.1.box
        by_cases hlt2 : k < n
        · have hltI : (k : Int) < n := by omega
          obtain ⟨ca, fa⟩ := hM.out.1.at hlt2
          obtain ⟨y, hy⟩ : ∃ y, M[k]! = y := ⟨_, rfl⟩
          rw [hy] at ca
          have HC := hid (hand_any w wr gb w.heap.size w1.heap.size n (k + 1) G M k y hM.out.1 HR.out HN.out hM.out.2.1 hlt2 hy (by omega) (fun s hs hne => hM.out.2.2 s (by omega)))
          clear hy hM
          go_wp2_with (first | (go_at_call 28; refine HC.out.mono ?_; rintro e w2 ⟨⟨v, rfl⟩, hH2⟩; have H2 := hid hH2; clear hH2))
          go_roundw
          case rel =>
            obtain ⟨M2, q⟩ := H2.out
            exact ⟨k + 1, M2, by omega, by simp, hid q⟩
          case measure => simp [intOf]; omega
        · have hltI : ¬ (k : Int) < n := by omega
          have e : k = n := by omega
          have R2 := hid (show EfV G wr w.heap.size (.slice (some ⟨w.heap.size, 0, none⟩) n n) ∧ Kp w wr [] from
            ⟨⟨M, hM.out.2.1.eff (fun s hs h0 => hM.out.2.2 s (by have := HN.out; omega) h0), hM.out.1.ns⟩, hM.out.1.kp⟩)
          clear hM
          go_wp2_with fail
          go_ret
          exact ⟨⟨_, rfl, R2.out.1⟩, R2.out.2⟩
set_option maxRecDepth 100000 in
theorem all_zero (w : World) (p : Option Addr) (h : Zg0 w p) : Calls Try.prog 13 #[.pointer p] w fun e w' => (∃ ao cap, e = .returned (.slice ao 0 cap)) ∧ Kp w w' [] := by
  have HZ := hid (zero_yes w p h)
  clear h
  go_enter Try.func13, Try.ntmps13
  go_wp2_with (first | (go_at_call 26; refine HZ.out.mono ?_; rintro e w1 ⟨rfl, rfl⟩))
  go_ret
  exact ⟨⟨_, _, rfl⟩, Kp.refl _ _⟩
set_option maxRecDepth 100000 in
theorem of_zero (w : World) (p : Option Addr) (t : Int) (h : Zg0 w p) : Calls Try.prog 18 #[.pointer p, .int .i64 t] w fun e w' => e = .returned (.tuple #[.int .i64 0, .bool false]) ∧ Kp w w' [] := by
  have HZ := hid (may_zero w p t h)
  clear h
  go_enter Try.func18, Try.ntmps18
  go_wp2_with (first | (go_at_call 29; refine HZ.out.mono ?_; rintro e w1 ⟨rfl, rfl⟩))
  go_ret2
  exact ⟨rfl, Kp.refl _ _⟩
set_option maxRecDepth 100000 in
theorem of0 (w : World) (gb : Nat) (G : Gs) (t : Int) (h : Gr0 w gb G) : Calls Try.prog 18 #[.pointer (some ⟨gb, 0, none⟩), .int .i64 t] w fun e w' => (∃ x, e = .returned (.tuple #[.int .i64 x, .bool (decide (mayT G t))]) ∧ OfV G t x) ∧ Kp w w' [] := by
  have CM := may_any w gb G t h
  by_cases ht : mayT G t
  · have hd : decide (mayT G t) = true := by simp [ht]
    rw [hd] at CM ⊢
    obtain ⟨t, rfl⟩ : ∃ k : Nat, t = k := ⟨t.toNat, by have := ht.1; omega⟩
    have htn : t < G.n := by have := ht.2; omega
    have HC := hid (all0 w gb G h)
    have HM := hid CM
    have HOK := hid h.ok
    have HT := hid ht
    have HTN := hid htn
    clear CM hd h ht htn
    go_enter Try.func18, Try.ntmps18
    go_wp2_with (first | (go_at_call 29; refine HM.out.mono ?_; rintro e w1 ⟨rfl, hw1⟩; obtain rfl := hw1.symm; clear hw1) | (go_at_call 13; refine HC.out.mono ?_; rintro e w1 ⟨⟨v, rfl, L, hL, hNs⟩, hk⟩; obtain ⟨ao, cap, hv⟩ := hNs.slice; rw [hL.len] at hv; have hlt : t < L.length := by { rw [hL.len]; exact HTN.out }; have htI : (t : Int) < G.n := by { have := HTN.out; omega }; subst hv; obtain ⟨g, hg, cg, fg⟩ := hNs.at hlt rfl; subst hg; have HL := hid (And.intro hL hk); clear hL hk hNs hlt))
    go_ret2
    refine ⟨⟨_, rfl, fun _ M hM => ?_, fun q => (q HT.out).elim⟩, HL.out.2⟩
    rw [Int.toNat_natCast, HL.out.1.one HOK.out hM]
    simp
  · have hd : decide (mayT G t) = false := by simp [ht]
    rw [hd] at CM ⊢
    have HM := hid CM
    have HT := hid ht
    clear CM hd h ht
    go_enter Try.func18, Try.ntmps18
    go_wp2_with (first | (go_at_call 29; refine HM.out.mono ?_; rintro e w1 ⟨rfl, rfl⟩))
    go_ret2
    exact ⟨⟨_, rfl, fun q => (HT.out q).elim, fun _ => rfl⟩, Kp.refl _ _⟩
end Go.Proofs.Ytomdnppnabncaaa
