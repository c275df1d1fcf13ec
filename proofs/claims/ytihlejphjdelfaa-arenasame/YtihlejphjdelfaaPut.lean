/- Write: the bytes stand at the offset. -/
import Derived.Test.YtihlejphjdelfaaSet
namespace Go.Proofs.Ytihlejphjdelfaa
open Go.RowKit

theorem keep4 {w w' : World} {rows : List Nat} {a b c d i j k m : Nat} {u v x y : Value} (h : w.cell? ⟨a, i, none⟩ = some u ∧ w.cell? ⟨b, j, none⟩ = some v ∧ w.cell? ⟨c, k, none⟩ = some x ∧ w.cell? ⟨d, m, none⟩ = some y) (hk : Kp w w' rows) (hn : a ∉ rows ∧ b ∉ rows ∧ c ∉ rows ∧ d ∉ rows) :
    w'.cell? ⟨a, i, none⟩ = some u ∧ w'.cell? ⟨b, j, none⟩ = some v ∧ w'.cell? ⟨c, k, none⟩ = some x ∧ w'.cell? ⟨d, m, none⟩ = some y :=
  ⟨hk.cell h.1 hn.1, hk.cell h.2.1 hn.2.1, hk.cell h.2.2.1 hn.2.2.1, hk.cell h.2.2.2 hn.2.2.2⟩

theorem bs_some {w : World} {v : Value} {l : List Int} (h : Bs w v l) : ∃ ao cap, v = .slice ao l.length cap ∧ (0 < l.length → ∃ ad, ao = some ad ∧ ∀ j u, (ub l)[j]? = some u → w.cell? (ad.add j) = some u) := by
  have h' := h
  obtain ⟨ao, cap, rfl, hl, hn, hc⟩ := h
  refine ⟨ao, cap, rfl, fun hp => ?_⟩
  have hne : l ≠ [] := by intro e; subst e; simp at hp
  obtain ⟨b, off, rfl, hcell⟩ := hc hne
  exact ⟨_, rfl, h'.cells rfl fun k _ => rfl⟩

theorem Bs.kept {w w' : World} {v : Value} {l : List Int} (h : Bs w v l) {rows : List Nat} (hk : Kp w w' rows) (hb : ∀ k, v.ownBlock = some k → k ∉ rows) : Bs w' v l := by
  by_cases hne : l = []
  · subst hne
    obtain ⟨ao, cap, rfl, hl, hn, hc⟩ := h
    exact ⟨ao, cap, rfl, hl, hn, fun h => absurd rfl h⟩
  · exact h.keep fun k e => hk.block k (h.lt hne k e) (hb k e)

set_option maxRecDepth 100000 in
set_option maxHeartbeats 1000000 in
theorem write_ok (w : World) (rb mb n o : Nat) (f : Nat → Int) (c : Int) (v : Value) (l : List Int) (h : Ar w rb mb n f c) (hn : n ≤ 65536) (hv : Bs w v l) (hby : Byt l) (hfit : o + l.length ≤ n) :
    Calls Try.prog 20 #[.pointer (some ⟨rb, 0, none⟩), .int .i64 o, v] w fun e w' => e = .returned (.int .i64 0) ∧ Ar w' rb mb n (over f o l) c ∧ Kp w w' [mb] := by
  have hb : hasB n o l.length = true := decide_eq_true ⟨by omega, by omega, by omega⟩
  have HB := hid hb
  have H := hid h
  have HV := hid hv
  have HY := hid hby
  obtain ⟨bo, mc, rfl, -⟩ := bs_some hv
  obtain ⟨cap, cur, hr, hm, hncap, hcap, hmax, hcur⟩ := h
  have hm0 := cell_two0 hr
  have hlt := lt_of_block hr
  have hltm := H.out.lt.2
  have hne := H.out.ne
  have HR := hid hr
  have HM := hid hm
  have HC := hid hcur
  have hc3 := fun o1 o2 o3 => cell_three (o1 := o1) (o2 := o2) (o3 := o3) hm0
  clear hr hm hb hcur hv hby
  go_enter Try.func20, Try.ntmps20
  go_wp2_with fail
  refine (write_ref _ w.heap.size (w.heap.size + 1) (w.heap.size + 2) rb mb n cap o bo l.length mc hn (by omega) (cell_past (cell_past cell_new0)) (cell_past cell_new1) cell_new2 (hc3 _ _ _)).mono ?_
  rintro e w1 ⟨rfl, rfl⟩
  rw [HB.out]
  go_wp2_with fail
  obtain ⟨W3, hW3⟩ : ∃ W3, W3 = (((w.alloc (.cells #[.pointer (some ⟨rb, 0, none⟩)] 23)).alloc (.cells #[.int .i64 o] 3)).alloc (.cells #[.slice bo l.length mc] 36)) := ⟨_, rfl⟩
  rw [← hW3]
  have hkW : Kp w W3 [] := by rw [hW3]; exact ((Kp.alloc _ _ _).trans (Kp.alloc _ _ _)).trans (Kp.alloc _ _ _)
  have hr3 : W3.heap[rb]? = _ := (hkW.block rb hlt (by simp)).trans HR.out
  have hm3 : W3.heap[mb]? = _ := (hkW.block mb hltm (by simp)).trans HM.out
  have hb0 : W3.cell? ⟨w.heap.size, 0, none⟩ = some (.pointer (some ⟨rb, 0, none⟩)) := by rw [hW3]; exact cell_past (cell_past cell_new0)
  have hb1 : W3.cell? ⟨w.heap.size + 1, 0, none⟩ = some (.int .i64 o) := by rw [hW3]; exact cell_past cell_new1
  have hb2 : W3.cell? ⟨w.heap.size + 1 + 1, 0, none⟩ = some (.slice bo l.length mc) := by rw [hW3]; exact cell_new2
  have hst := And.intro hb0 (And.intro hb1 (And.intro hb2 (cell_two0 hr3)))
  have HV3 := hid (HV.out.kept hkW (by simp))
  have HR3 := hid hr3
  have HM3 := hid hm3
  have HK3 := hid hkW
  clear hW3 hb0 hb1 hkW hr3 hm3 hb2 hc3 hm0
  have HL5 := hid (show o + (ub l).length ≤ cur.size by simp only [ub, List.length_map]; omega)
  by_cases hoc' : cap = o
  · have hl0 : l.length = 0 := by omega
    have hoc : (cap = o) = True := eq_true hoc'
    have HL4 := hid (show ∀ d, (ub l).length = Nat.min l.length d by intro d; simp only [ub, List.length_map, hl0]; exact (Nat.min_eq_left (by omega)).symm)
    have HL0 := hid (show ¬ 0 < (ub l).length by simp only [ub, List.length_map]; omega)
    clear hl0 hoc'
    go_region_held_law (fun w' => w'.cell? ⟨w.heap.size, 0, none⟩ = some (.pointer (some ⟨rb, 0, none⟩)) ∧ w'.cell? ⟨w.heap.size + 1, 0, none⟩ = some (.int .i64 o) ∧ w'.cell? ⟨w.heap.size + 1 + 1, 0, none⟩ = some (.slice bo l.length mc) ∧ w'.cell? ⟨rb, 0, none⟩ = some (.slice (some ⟨mb, 0, none⟩) n cap))
      (first
        | exact keep4 hst (Kp.drew _ []) (by simp)
        | exact keep4 hst ((Kp.drew _ _).trans hk4.out) (by simp; omega))
      ((refine step_copy_at (by rfl) _ _ 36 36 (by rfl) 21 (by rfl) 5 Try.underlying36 Try.size5 _ bo _ _ l.length mc (by rfl) (by rfl) mb o cur 5 HM3.out (ub l) (HL4.out _) (fun hp => absurd hp HL0.out) HL5.out (ub_one _) ?_; intro w4 hg4 hk4 hs4))
    go_wp2
    go_ret
    have hk : Kp W3 w4 [mb] := (Kp.drew _ _).trans hk4.out
    refine ⟨rfl, ar_set ((hk.block rb (lt_of_block HR3.out) (by simp; omega)).trans HR3.out) hg4.out HC.out HY.out hfit hncap hcap hmax, ?_⟩
    exact (HK3.out.mono (by simp)).trans hk
  · have hoc : (cap = o) = False := eq_false hoc'
    have HL4 := hid (show (ub l).length = Nat.min l.length (n - o) by simp only [ub, List.length_map]; exact (Nat.min_eq_left (by omega)).symm)
    have hsrc : 0 < (ub l).length → ∃ ad, bo = some ad ∧ ∀ j u, (ub l)[j]? = some u → W3.drew.cell? (ad.add j) = some u := by
      intro hp
      obtain ⟨a1, a2, e, hh⟩ := bs_some HV3.out
      simp only [Value.slice.injEq, true_and] at e
      obtain ⟨rfl, rfl⟩ := e
      exact hh (by simpa [ub] using hp)
    have HS := hid hsrc
    clear hsrc
    go_region_held_law (fun w' => w'.cell? ⟨w.heap.size, 0, none⟩ = some (.pointer (some ⟨rb, 0, none⟩)) ∧ w'.cell? ⟨w.heap.size + 1, 0, none⟩ = some (.int .i64 o) ∧ w'.cell? ⟨w.heap.size + 1 + 1, 0, none⟩ = some (.slice bo l.length mc) ∧ w'.cell? ⟨rb, 0, none⟩ = some (.slice (some ⟨mb, 0, none⟩) n cap))
      (first
        | exact keep4 hst (Kp.drew _ []) (by simp)
        | exact keep4 hst ((Kp.drew _ _).trans hk4.out) (by simp; omega))
      ((refine step_copy_at (by rfl) _ _ 36 36 (by rfl) 21 (by rfl) 5 Try.underlying36 Try.size5 (some ⟨mb, o, none⟩) bo (n - o) (cap - o) l.length mc (by rfl) (by rfl) mb o cur 5 HM3.out (ub l) HL4.out (fun hp => ⟨rfl, HS.out hp⟩) HL5.out (ub_one _) ?_; intro w4 hg4 hk4 hs4))
    go_wp2
    go_ret
    have hk : Kp W3 w4 [mb] := (Kp.drew _ _).trans hk4.out
    refine ⟨rfl, ar_set ((hk.block rb (lt_of_block HR3.out) (by simp; omega)).trans HR3.out) hg4.out HC.out HY.out hfit hncap hcap hmax, ?_⟩
    exact (HK3.out.mono (by simp)).trans hk
end Go.Proofs.Ytihlejphjdelfaa
