/- The reference's All: numbers are raised till nothing changes. -/
import Derived.Test.YtomdnppnabncaaaRef
import Derived.Laws.MakeOwn
namespace Go.Proofs.Ytomdnppnabncaaa
open Go.RowKit Go.Shelf
open Go.Lib hiding intOf

theorem icells_set (L : List Int) (i : Nat) (x : Int) : icells (L.set i x) = (icells L).set i (.int .i64 x) := by
  simp [icells, List.map_set]
theorem Ns.set {w : World} {base g m cap : Nat} {L : List Int} (h : Ns w base (.slice (some ⟨g, 0, none⟩) m cap) L) {i : Nat} (x : Int) : Ns (w.setCell ⟨g, i, none⟩ (.int .i64 x)) base (.slice (some ⟨g, 0, none⟩) m cap) (L.set i x) := by
  obtain ⟨cur, rfl, hb, hg, h3, h4, h5, h6⟩ := h.open
  unfold Ns
  rw [List.length_set]
  refine ⟨by simp [icells], .inr ⟨g, cap, cur.setIfInBounds i (.int .i64 x), rfl, hb, ?_, h3, h4, by simp [h5], ?_⟩⟩
  · simp [World.setCell, hg, Array.getElem?_modify]
  · rw [icells_set, ← h6, Nat.mul_one]
    simp [List.take_set]
theorem made_ints {w : World} {n base : Nat} {v : Value} (h : w.ownsRow base 3 1 v n (madeCells (Value.int .i64 0).cells (n * 1)).toList) : Ns w base v (List.replicate n 0) := by
  have e : (madeCells (Value.int .i64 0).cells (n * 1)).toList = List.replicate n (.int .i64 0) := by
    apply List.ext_getElem
    · simp [madeCells]
    · intro i h1 h2
      simp [madeCells, Value.cells, Nat.mod_one]
  rw [e] at h
  unfold Ns icells
  simpa using h
/-- All's numbers under way. -/
def Al (w wr : World) (n : Nat) (L : List Int) : Prop := Ns wr w.heap.size (.slice (some ⟨w.heap.size, 0, none⟩) n n) L ∧ Kp w wr [] ∧ L.length = n
theorem Al.put {w wr : World} {n : Nat} {L : List Int} (h : Al w wr n L) (i : Nat) (x : Int) : Al w (wr.setCell ⟨w.heap.size, i, none⟩ (.int .i64 x)) n (L.set i x) :=
  ⟨h.1.set x, h.2.1.past (Kp.setCell wr ⟨w.heap.size, i, none⟩ _) (by intro j hj hl; simp at hj; omega), by rw [List.length_set]; exact h.2.2⟩
theorem Al.drew {w wr : World} {n : Nat} {L : List Int} (h : Al w wr n L) : Al w wr.drew n L := ⟨h.1.keep (Kp.drew _ _), h.2.1.trans (Kp.drew _ _), h.2.2⟩
theorem Al.drewN {w wr : World} {n : Nat} {L : List Int} (h : Al w wr n L) (k : Nat) : Al w (wr.drewN k) n L := ⟨h.1.keep (Kp.drewN _ _ _), h.2.1.trans (Kp.drewN _ _ _), h.2.2⟩
theorem Al.at {w wr : World} {n : Nat} {L : List Int} (h : Al w wr n L) {i : Nat} (hi : i < n) : wr.cell? ⟨w.heap.size, i, none⟩ = some (.int .i64 L[i]!) ∧ wr.frozen? ⟨w.heap.size, i, none⟩ = false := by
  obtain ⟨g, e, c, f⟩ := h.1.at (k := i) (by have := h.2.2; omega) rfl
  simp at e
  subst e
  exact ⟨c, f⟩
/-- How much there is to raise yet, as it stands in memory. -/
def gapOf (W : World) (g n : Nat) : Nat := gap ((List.range n).map fun i => match W.cell? ⟨g, i, none⟩ with | some (.int _ x) => x | _ => 0)
theorem Al.gap {w wr : World} {n : Nat} {L : List Int} (h : Al w wr n L) : gapOf wr w.heap.size n = gap L := by
  unfold gapOf
  congr 1
  apply List.ext_getElem
  · simp [h.2.2]
  · intro i h1 h2
    have hi : i < n := by simpa using h1
    simp [(h.at hi).1, h2]
def chN (v : Value) : Nat := match v with | .bool true => 1 | _ => 0
set_option maxRecDepth 100000 in
set_option maxHeartbeats 2000000 in
theorem rall_any (w : World) (rb : Nat) (G : Gs) (h : Rr w rb G) (hG : Gok G) : Calls Try.prog 24 #[.pointer (some ⟨rb, 0, none⟩)] w fun e w' => (∃ v, e = .returned v ∧ ∃ L, Eff G L ∧ Ns w' w.heap.size v L) ∧ Kp w w' [] := by
  obtain ⟨i0, hi, hz0, hz1, hz2⟩ := info_parts Try.infoI
  obtain ⟨n, hn⟩ : ∃ n, G.n = n := ⟨_, rfl⟩
  have h1 := hG.n1
  have h2 := hG.n2
  have c0 := h.n
  rw [hn] at h1 h2 c0
  have h1' : (1 : Int) ≤ n := by omega
  have h2' : (n : Int) ≤ 16 := by omega
  have hrb : rb < w.heap.size := h.lt
  have hne : rb ≠ w.heap.size := by omega
  have HR := hid h
  have HG := hid hG
  have HN := hid hn
  clear h hG hn
  go_enter Try.func24, Try.ntmps24
  go_wp2_with (refine wpList_make_full _ rfl _ _ 35 rfl w.heap.size 3 i0 (.int .i64 0) 1 Try.underlying35 hi hz0 hz1 .i64 .i64 n n n rfl rfl rfl rfl (by rw [hz2]; omega) (by unfold maxLen; omega) (Nat.le_refl _) ?_; intro w1 hown hg; have HA := hid (show Al w w1 n (List.replicate n 0) from ⟨made_ints hown, Kp.ofGrown hg (by simp), by simp⟩); clear hown hg)
  clear c0
  go_loopw [4] (fun vi wr => ∃ (k : Nat) (L : List Int), k ≤ n ∧ vi = .int .i64 k ∧ Hid (Al w wr n L ∧ ∀ t, t < k → L[t]! = ownP G t)) (fun vi _ => n - (intOf vi).toNat)
  case atStart => exact ⟨0, _, Nat.zero_le _, rfl, hid ⟨HA.out, fun t ht => by omega⟩⟩
  case round =>
    obtain ⟨k, L, hk, rfl, hR⟩ := hrel
    have hr := HR.out.same hR.out.1.2.1
    have c0 := hr.n
    rw [HN.out] at c0
    by_cases hlt : k < n
    · have hltI : (k : Int) < n := by omega
      have cb := hr.b (t := k) (by omega)
      have cc := hr.c (t := k) (by omega)
      obtain ⟨ca, fa⟩ := hR.out.1.at hlt
      have R2 := hid (show Al w (wr.drew.setCell ⟨w.heap.size, k, none⟩ (.int .i64 (max (G.b k) (G.c k)))) n (L.set k (ownP G k)) ∧ ∀ t, t < k + 1 → (L.set k (ownP G k))[t]! = ownP G t from
        ⟨hR.out.1.drew.put k _, fun t ht => by
          have hl := hR.out.1.2.2
          rw [set_get (by omega)]
          split
          · rename_i e; rw [e]
          · exact hR.out.2 t (by omega)⟩)
      clear hr hR
      go_wp2_with fail
      go_region
      go_wp2_with fail
      go_roundw
      case rel => exact ⟨k + 1, _, by omega, by simp, R2⟩
      case measure => simp [intOf]; omega
    · have hltI : ¬ (k : Int) < n := by omega
      have e : k = n := by omega
      have HW := hid (show Al w wr n L ∧ Way G L from ⟨hR.out.1, way_own (by rw [HN.out]; exact hR.out.1.2.2) (fun t ht => hR.out.2 t (by have := HN.out; omega))⟩)
      clear hr hR hlt e hk
      go_wp2_with fail
      clear hltI c0
      go_loopw [5] (fun vc wq => ∃ (ch : Bool) (M : List Int), vc = .bool ch ∧ Hid (Al w wq n M ∧ Way G M ∧ (ch = false → Eff G M))) (fun vc wq => chN vc * (1 + gapOf wq w.heap.size n))
      case atStart => exact ⟨true, L, rfl, hid ⟨HW.out.1, HW.out.2, by simp⟩⟩
      case round =>
        obtain ⟨ch, M, rfl, hM⟩ := hrel
        cases ch with
        | false =>
          go_wp2_with fail
          go_ret
          exact ⟨⟨_, rfl, M, hM.out.2.2 trivial, hM.out.1.1⟩, hM.out.1.2.1⟩
        | true =>
          go_wp2_with fail
          go_loopw [5, 6] (fun vc vi wx => ∃ (ch : Bool) (t : Nat) (M' : List Int), vc = .bool ch ∧ vi = .int .i64 t ∧ t ≤ n ∧ Hid (Al w wx n M' ∧ Way G M' ∧ ((ch = false ∧ M' = M ∧ ∀ s, s < t → 0 ≤ G.w s → M[s]! ≤ M[(G.w s).toNat]!) ∨ (ch = true ∧ gap M' < gap M)))) (fun _ vi _ => n - (intOf vi).toNat)
          case atStart => exact ⟨false, 0, M, rfl, rfl, by omega, hid ⟨hM.out.1, hM.out.2.1, .inl ⟨rfl, rfl, fun s hs => by omega⟩⟩⟩
          case round =>
            obtain ⟨ch, t, M', rfl, rfl, ht, hI⟩ := hrel
            have hr := HR.out.same hI.out.1.2.1
            have c0 := hr.n
            rw [HN.out] at c0
            by_cases hlt : t < n
            · have hltI : (t : Int) < n := by omega
              have cw := hr.wt (t := t) (by omega)
              have hbx := HG.out.wt t (by rw [HN.out]; exact hlt)
              rw [HN.out] at hbx
              obtain ⟨ct, -⟩ := hI.out.1.at hlt
              obtain ⟨y, hy⟩ : ∃ y, M'[t]! = y := ⟨_, rfl⟩
              obtain ⟨x, hx⟩ : ∃ x, G.w t = x := ⟨_, rfl⟩
              rw [hy] at ct
              rw [hx] at cw hbx
              have HX := hid hx
              have HY := hid hy
              clear hr hx hy
              by_cases hx0 : 0 ≤ x
              · obtain ⟨u, rfl⟩ : ∃ u : Nat, x = u := ⟨x.toNat, by omega⟩
                have hun : u < n := by omega
                obtain ⟨cu, fu⟩ := hI.out.1.at hun
                obtain ⟨z, hz⟩ : ∃ z, M'[u]! = z := ⟨_, rfl⟩
                rw [hz] at cu
                have HZ := hid hz
                clear hz
                by_cases hq : z < y
                · have R2 := hid (show (∀ nq, Al w ((wr.drewN nq).setCell ⟨w.heap.size, u, none⟩ (.int .i64 y)) n (M'.set u y)) ∧ Way G (M'.set u y) ∧ gap (M'.set u y) < gap M from by
                    have e1 := hI.out.2.1.raise HG.out (t := t) (by rw [HN.out]; exact hlt) (by rw [HX.out]; omega) (by rw [HX.out, Int.toNat_natCast, HZ.out, HY.out]; exact hq)
                    rw [HX.out, Int.toNat_natCast, HY.out] at e1
                    refine ⟨fun nq => (hI.out.1.drewN nq).put u y, e1.1, ?_⟩
                    rcases hI.out.2.2 with ⟨-, e2, -⟩ | ⟨-, e2⟩
                    · rw [← e2]; exact e1.2
                    · exact Nat.lt_trans e1.2 e2)
                  clear hI
                  go_wp2_with fail
                  go_quiet (fail)
                  go_wp2_with fail
                  go_roundw
                  case rel => exact ⟨true, t + 1, _, rfl, by simp, by omega, hid ⟨R2.out.1 _, R2.out.2.1, .inr ⟨rfl, R2.out.2.2⟩⟩⟩
                  case measure => simp [intOf]; omega
                · have R2 := hid (show (∀ nq, Al w (wr.drewN nq) n M') ∧ Way G M' ∧ ((ch = false ∧ M' = M ∧ ∀ s, s < t + 1 → 0 ≤ G.w s → M[s]! ≤ M[(G.w s).toNat]!) ∨ (ch = true ∧ gap M' < gap M)) from by
                    refine ⟨fun nq => hI.out.1.drewN nq, hI.out.2.1, ?_⟩
                    rcases hI.out.2.2 with ⟨e1, e2, e3⟩ | e2
                    · refine .inl ⟨e1, e2, fun s hs hw => ?_⟩
                      by_cases e : s = t
                      · subst e
                        rw [HX.out, Int.toNat_natCast, ← e2, HZ.out, HY.out]; omega
                      · exact e3 s (by omega) hw
                    · exact .inr e2)
                  clear hI
                  go_wp2_with fail
                  go_quiet (fail)
                  go_wp2_with fail
                  go_roundw
                  case rel => exact ⟨ch, t + 1, _, rfl, by simp, by omega, hid ⟨R2.out.1 _, R2.out.2⟩⟩
                  case measure => simp [intOf]; omega
              · have R2 := hid (show (∀ nq, Al w (wr.drewN nq) n M') ∧ Way G M' ∧ ((ch = false ∧ M' = M ∧ ∀ s, s < t + 1 → 0 ≤ G.w s → M[s]! ≤ M[(G.w s).toNat]!) ∨ (ch = true ∧ gap M' < gap M)) from by
                  refine ⟨fun nq => hI.out.1.drewN nq, hI.out.2.1, ?_⟩
                  rcases hI.out.2.2 with ⟨e1, e2, e3⟩ | e2
                  · refine .inl ⟨e1, e2, fun s hs hw => ?_⟩
                    by_cases e : s = t
                    · subst e
                      rw [HX.out] at hw
                      omega
                    · exact e3 s (by omega) hw
                  · exact .inr e2)
                clear hI
                have hd : decide (0 ≤ x) = false := by simp; omega
                go_wp2_with fail
                go_quiet (fail)
                go_wp2_with fail
                go_roundw
                case rel => exact ⟨ch, t + 1, _, rfl, by simp, by omega, hid ⟨R2.out.1 _, R2.out.2⟩⟩
                case measure => simp [intOf]; omega
            · have hltI : ¬ (t : Int) < n := by omega
              have R2 := hid (show Al w wr n M' ∧ Way G M' ∧ (ch = false → Eff G M') ∧ chN (.bool ch) * (1 + gapOf wr w.heap.size n) < 1 * (1 + gap M) from by
                refine ⟨hI.out.1, hI.out.2.1, fun e => ?_, ?_⟩
                · rcases hI.out.2.2 with ⟨e1, e2, e3⟩ | ⟨e2, -⟩
                  · refine hI.out.2.1.eff fun s hs hw => ?_
                    rw [e2]
                    exact e3 s (by rw [HN.out] at hs; omega) hw
                  · rw [e] at e2; cases e2
                · rw [hI.out.1.gap]
                  rcases hI.out.2.2 with ⟨e1, -, -⟩ | ⟨e1, e2⟩
                  · rw [e1, show chN (.bool false) = 0 from rfl]; omega
                  · rw [e1, show chN (.bool true) = 1 from rfl]; omega)
              clear hI hr
              go_wp2_with fail
              go_roundw
              case rel => exact ⟨ch, M', rfl, hid ⟨R2.out.1, R2.out.2.1, R2.out.2.2.1⟩⟩
              case measure =>
                have := R2.out.2.2.2
                have e := hM.out.1.gap
                simp only [chN] at this ⊢
                rw [e]
                exact this
end Go.Proofs.Ytomdnppnabncaaa
