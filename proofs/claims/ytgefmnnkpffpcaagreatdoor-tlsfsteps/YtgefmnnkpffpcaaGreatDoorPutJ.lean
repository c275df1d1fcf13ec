/- Write: the bytes stand at the offset. -/
import Derived.Test.YtgefmnnkpffpcaaGreatDoorNoMoreJ
namespace Go.Proofs.YtgefmnnkpffpcaaGreatDoor
open Go.RowKit

theorem keep4 {w w' : World} {rows : List Nat} {a b c d i j k m : Nat} {u v x y : Value} (h : w.cell? ⟨a, i, none⟩ = some u ∧ w.cell? ⟨b, j, none⟩ = some v ∧ w.cell? ⟨c, k, none⟩ = some x ∧ w.cell? ⟨d, m, none⟩ = some y) (hk : Kp w w' rows) (hn : a ∉ rows ∧ b ∉ rows ∧ c ∉ rows ∧ d ∉ rows) :
    w'.cell? ⟨a, i, none⟩ = some u ∧ w'.cell? ⟨b, j, none⟩ = some v ∧ w'.cell? ⟨c, k, none⟩ = some x ∧ w'.cell? ⟨d, m, none⟩ = some y :=
  ⟨hk.cell h.1 hn.1, hk.cell h.2.1 hn.2.1, hk.cell h.2.2.1 hn.2.2.1, hk.cell h.2.2.2 hn.2.2.2⟩

theorem bs_some {w : World} {v : Value} {l : List Int} (h : Bs w v l) : ∃ ao cap, v = .slice ao l.length cap ∧ (0 < l.length → ∃ ad, ao = some ad ∧ ∀ j u, (ub l)[j]? = some u → w.cell? (ad.add j) = some u) := by
  have h' := h
  obtain ⟨ao, cap, rfl, hl, hn, hc⟩ := h
  refine ⟨ao, cap, rfl, fun hp => ?_⟩
  have hne : l ≠ [] := by intro e; subst e; simp at hp
  obtain ⟨b, off, rfl, hcell⟩ := hc hne
  exact ⟨_, rfl, h'.cells rfl fun k _ => rfl⟩

theorem Bs.kept {w w' : World} {v : Value} {l : List Int} (h : Bs w v l) {rows : List Nat} (hk : Kp w w' rows) (hb : ∀ k, v.ownBlock = some k → k ∉ rows) : Bs w' v l := by
  by_cases hne : l = []
  · subst hne
    obtain ⟨ao, cap, rfl, hl, hn, hc⟩ := h
    exact ⟨ao, cap, rfl, hl, hn, fun h => absurd rfl h⟩
  · exact h.keep fun k e => hk.block k (h.lt hne k e) (hb k e)

set_option maxRecDepth 100000 in
set_option maxHeartbeats 1000000 in
theorem write_ok (w : World) (rb mb n o : Nat) (f : Nat → Int) (c : Int) (v : Value) (l : List Int) (h : Ar w rb mb n f c) (hn : n ≤ 65536) (hv : Bs w v l) (hby : Byt l) (hfit : o + l.length ≤ n) :
    Calls Tryz.prog 66 #[.pointer (some ⟨rb, 0, none⟩), .int .i64 o, v] w fun e w' => e = .returned (.int .i64 0) ∧ Ar w' rb mb n (over f o l) c ∧ Kp w w' [mb] := by
  have hb : hasB n o l.length = true := decide_eq_true ⟨by omega, by omega, by omega⟩
  have HB := hid hb
  have H := hid h
  have HV := hid hv
  have HY := hid hby
  obtain ⟨bo, mc, rfl, -⟩ := bs_some hv
  obtain ⟨cap, cur, hr, hm, hncap, hcap, hmax, hcur⟩ := h
  have hm0 := cell_two0 hr
  have hlt := lt_of_block hr
  have hltm := H.out.lt.2
  have hne := H.out.ne
  have HR := hid hr
  have HM := hid hm
  have HC := hid hcur
  have hc3 := fun o1 o2 o3 => cell_three (o1 := o1) (o2 := o2) (o3 := o3) hm0
  clear hr hm hb hcur hv hby
  go_enter Tryz.func66, Tryz.ntmps66
  go_wp2_with fail
  refine (write_ref _ w.heap.size (w.heap.size + 1) (w.heap.size + 2) rb mb n cap o bo l.length mc hn (by omega) (cell_past (cell_past cell_new0)) (cell_past cell_new1) cell_new2 (hc3 _ _ _)).mono ?_
  rintro e w1 ⟨rfl, rfl⟩
  rw [HB.out]
  go_wp2_with fail
  obtain ⟨W3, hW3⟩ : ∃ W3, W3 = (((w.alloc (.cells #[.pointer (some ⟨rb, 0, none⟩)] 52)).alloc (.cells #[.int .i64 o] 3)).alloc (.cells #[.slice bo l.length mc] 40)) := ⟨_, rfl⟩
  rw [← hW3]
  have hkW : Kp w W3 [] := by rw [hW3]; exact ((Kp.alloc _ _ _).trans (Kp.alloc _ _ _)).trans (Kp.alloc _ _ _)
  have hr3 : W3.heap[rb]? = _ := (hkW.block rb hlt (by simp)).trans HR.out
  have hm3 : W3.heap[mb]? = _ := (hkW.block mb hltm (by simp)).trans HM.out
  have hb0 : W3.cell? ⟨w.heap.size, 0, none⟩ = some (.pointer (some ⟨rb, 0, none⟩)) := by rw [hW3]; exact cell_past (cell_past cell_new0)
  have hb1 : W3.cell? ⟨w.heap.size + 1, 0, none⟩ = some (.int .i64 o) := by rw [hW3]; exact cell_past cell_new1
  have hb2 : W3.cell? ⟨w.heap.size + 1 + 1, 0, none⟩ = some (.slice bo l.length mc) := by rw [hW3]; exact cell_new2
  have hst := And.intro hb0 (And.intro hb1 (And.intro hb2 (cell_two0 hr3)))
  have HV3 := hid (HV.out.kept hkW (by simp))
  have HR3 := hid hr3
  have HM3 := hid hm3
  have HK3 := hid hkW
  clear hW3 hb0 hb1 hkW hr3 hm3 hb2 hc3 hm0
  have HL5 := hid (show o + (ub l).length ≤ cur.size by simp only [ub, List.length_map]; omega)
  by_cases hoc' : cap = o
  · have hl0 : l.length = 0 := by omega
    have hoc : (cap = o) = True := eq_true hoc'
    have HL4 := hid (show ∀ d, (ub l).length = Nat.min l.length d by intro d; simp only [ub, List.length_map, hl0]; exact (Nat.min_eq_left (by omega)).symm)
    have HL0 := hid (show ¬ 0 < (ub l).length by simp only [ub, List.length_map]; omega)
    clear hl0 hoc'
    go_region_held_law (fun w' => w'.cell? ⟨w.heap.size, 0, none⟩ = some (.pointer (some ⟨rb, 0, none⟩)) ∧ w'.cell? ⟨w.heap.size + 1, 0, none⟩ = some (.int .i64 o) ∧ w'.cell? ⟨w.heap.size + 1 + 1, 0, none⟩ = some (.slice bo l.length mc) ∧ w'.cell? ⟨rb, 0, none⟩ = some (.slice (some ⟨mb, 0, none⟩) n cap))
      (first
        | exact keep4 hst (Kp.drew _ []) (by simp)
        | exact keep4 hst ((Kp.drew _ _).trans hk4.out) (by simp; omega))
      ((refine step_copy_at (by rfl) _ _ 40 40 (by rfl) 21 (by rfl) 5 Tryz.underlying40 Tryz.size5 _ bo _ _ l.length mc (by rfl) (by rfl) mb o cur 5 HM3.out (ub l) (HL4.out _) (fun hp => absurd hp HL0.out) HL5.out (ub_one _) ?_; intro w4 hg4 hk4 hs4))
    go_wp2
    go_ret
    have hk : Kp W3 w4 [mb] := (Kp.drew _ _).trans hk4.out
    refine ⟨rfl, ar_set ((hk.block rb (lt_of_block HR3.out) (by simp; omega)).trans HR3.out) hg4.out HC.out HY.out hfit hncap hcap hmax, ?_⟩
    exact (HK3.out.mono (by simp)).trans hk
  · have hoc : (cap = o) = False := eq_false hoc'
    have HL4 := hid (show (ub l).length = Nat.min l.length (n - o) by simp only [ub, List.length_map]; exact (Nat.min_eq_left (by omega)).symm)
    have hsrc : 0 < (ub l).length → ∃ ad, bo = some ad ∧ ∀ j u, (ub l)[j]? = some u → W3.drew.cell? (ad.add j) = some u := by
      intro hp
      obtain ⟨a1, a2, e, hh⟩ := bs_some HV3.out
      simp only [Value.slice.injEq, true_and] at e
      obtain ⟨rfl, rfl⟩ := e
      exact hh (by simpa [ub] using hp)
    have HS := hid hsrc
    clear hsrc
    go_region_held_law (fun w' => w'.cell? ⟨w.heap.size, 0, none⟩ = some (.pointer (some ⟨rb, 0, none⟩)) ∧ w'.cell? ⟨w.heap.size + 1, 0, none⟩ = some (.int .i64 o) ∧ w'.cell? ⟨w.heap.size + 1 + 1, 0, none⟩ = some (.slice bo l.length mc) ∧ w'.cell? ⟨rb, 0, none⟩ = some (.slice (some ⟨mb, 0, none⟩) n cap))
      (first
        | exact keep4 hst (Kp.drew _ []) (by simp)
        | exact keep4 hst ((Kp.drew _ _).trans hk4.out) (by simp; omega))
      ((refine step_copy_at (by rfl) _ _ 40 40 (by rfl) 21 (by rfl) 5 Tryz.underlying40 Tryz.size5 (some ⟨mb, o, none⟩) bo (n - o) (cap - o) l.length mc (by rfl) (by rfl) mb o cur 5 HM3.out (ub l) HL4.out (fun hp => ⟨rfl, HS.out hp⟩) HL5.out (ub_one _) ?_; intro w4 hg4 hk4 hs4))
    go_wp2
    go_ret
    have hk : Kp W3 w4 [mb] := (Kp.drew _ _).trans hk4.out
    refine ⟨rfl, ar_set ((hk.block rb (lt_of_block HR3.out) (by simp; omega)).trans HR3.out) hg4.out HC.out HY.out hfit hncap hcap hmax, ?_⟩
    exact (HK3.out.mono (by simp)).trans hk
end Go.Proofs.YtgefmnnkpffpcaaGreatDoor

/- slices.Clone at bytes; Read: a copy of the bytes from the offset on. -/
namespace Go.Proofs.YtgefmnnkpffpcaaGreatDoor
open Go.RowKit

set_option maxRecDepth 100000 in
set_option maxHeartbeats 400000 in
theorem clone_any (w : World) (a : Addr) (m cap : Nat) (l : List Int) (hl : l.length = m) (h : Bs w (.slice (some a) l.length cap) l) (hm : l.length ≤ 140737488355328) :
    Calls Tryz.prog 114 #[.slice (some a) m cap] w fun e w' => ∃ v', e = .returned v' ∧ w'.ownsRow w.heap.size 5 1 v' l.length (ub l) ∧ w.grownBy w' none := by
  subst hl
  obtain ⟨i0, hi, hz0, hz1, hz2⟩ := info_parts Tryz.info5
  have H := hid h
  have Hm := hid hm
  clear hm h
  have hnil := fun w : World => Lib.run_eql_slice_nil (P := Tryz.prog) w 40 5 (some a) l.length cap 0 0 Tryz.underlying40
  go_enter Tryz.func114, Tryz.ntmps114
  go_wp2_with (at_builtin; refine wpList_append_own _ rfl _ _ 40 rfl w.heap.size 5 i0 (.int .u8 0) 1 1 Tryz.underlying40 hi hz0 hz1 hz2 rfl (by decide) _ 0 [] rfl (World.ownsRow_lit w #[] 0 (Nat.le_refl _) (by unfold maxLen; omega) rfl) a l.length cap (ub l) rfl (by simp [ub]) (H.out.cells rfl fun k hk => Below.heap_alloc _ _ _ hk) (ub_one l) (by have := Hm.out; unfold maxLen; omega) (by have := Hm.out; omega) (by simp) ?_)
  intro v' w1 hown' hgrow _
  have HO := hid hown'
  have hg' := hid (grown_new hgrow (by simp [Value.ownBlock]))
  clear hown' hgrow
  go_wp2
  go_ret
  exact ⟨_, rfl, HO.out, hg'.out⟩

theorem owns_base {w : World} {b b' e s : Nat} {v : Value} {n : Nat} {xs : List Value} (h : w.ownsRow b e s v n xs) (hb : b' ≤ b) : w.ownsRow b' e s v n xs := by
  refine ⟨h.1, ?_⟩
  rcases h.2 with h' | ⟨g, cap, cur, rfl, h1, h2⟩
  · exact .inl h'
  · exact .inr ⟨g, cap, cur, rfl, by omega, h2⟩

/-- m bytes from o on. -/
def part (f : Nat → Int) (o m : Nat) : List Int := (List.range m).map fun i => f (o + i)
theorem part_length (f : Nat → Int) (o m : Nat) : (part f o m).length = m := by simp [part]
theorem part_byt {f : Nat → Int} {o m n : Nat} (h : ∀ i, i < n → 0 ≤ f i ∧ f i < 256) (hfit : o + m ≤ n) : Byt (part f o m) := by
  intro x hx
  simp only [part, List.mem_map, List.mem_range] at hx
  obtain ⟨i, hi, rfl⟩ := hx
  exact h _ (by omega)

/-- The bytes of an arena as a slice of its memory: a slice at the head where the cut is at the very end. -/
theorem ar_part {w : World} {mb n o m : Nat} {f : Nat → Int} {cur : Array Value} (hm : w.heap[mb]? = some (.cells cur 5 (0, 0))) (hcur : ∀ i, i < n → cur[i]? = some (.int .u8 (f i)) ∧ 0 ≤ f i ∧ f i < 256) (hfit : o + m ≤ n) (a k : Nat) (hk : m ≤ k) (ha : 0 < m → a = o) :
    Bs w (.slice (some ⟨mb, a, none⟩) (part f o m).length k) (part f o m) := by
  refine ⟨_, k, rfl, by rw [part_length]; exact hk, fun h => by simp at h, fun hne => ⟨mb, a, rfl, fun i hi => ?_⟩⟩
  rw [part_length] at hi
  obtain rfl := ha (by omega)
  simp [World.cell?, hm, (hcur (a + i) (by omega)).1, part, hi]

set_option maxRecDepth 100000 in
set_option maxHeartbeats 1000000 in
theorem read_ok (w : World) (rb mb n o m : Nat) (f : Nat → Int) (c : Int) (h : Ar w rb mb n f c) (hn : n ≤ 65536) (hfit : o + m ≤ n) :
    Calls Tryz.prog 107 #[.pointer (some ⟨rb, 0, none⟩), .int .i64 o, .int .i64 m] w fun e w' => ∃ v, e = .returned (.tuple #[v, .int .i64 0]) ∧ w'.ownsRow w.heap.size 5 1 v m (ub (part f o m)) ∧ Kp w w' [] := by
  have hb : hasB n o m = true := decide_eq_true ⟨by omega, by omega, by omega⟩
  have HB := hid hb
  have H := hid h
  obtain ⟨cap, cur, hr, hm, hncap, hcap, hmax, hcur⟩ := h
  have hm0 := cell_two0 hr
  have hlt := lt_of_block hr
  have hltm := H.out.lt.2
  have HR := hid hr
  have HM := hid hm
  have HC := hid hcur
  have hc3 := fun o1 o2 o3 => cell_three (o1 := o1) (o2 := o2) (o3 := o3) hm0
  clear hr hm hb hcur
  go_enter Tryz.func107, Tryz.ntmps107
  go_wp2_with fail
  refine (read_ref _ w.heap.size (w.heap.size + 1) (w.heap.size + 2) rb mb n cap o m hn (by omega) (cell_past (cell_past cell_new0)) (cell_past cell_new1) cell_new2 (hc3 _ _ _)).mono ?_
  rintro e w1 ⟨rfl, rfl⟩
  rw [HB.out]
  go_wp2_with fail
  obtain ⟨W3, hW3⟩ : ∃ W3, W3 = (((w.alloc (.cells #[.pointer (some ⟨rb, 0, none⟩)] 52)).alloc (.cells #[.int .i64 o] 3)).alloc (.cells #[.int .i64 m] 3)) := ⟨_, rfl⟩
  rw [← hW3]
  have hkW : Kp w W3 [] := by rw [hW3]; exact ((Kp.alloc _ _ _).trans (Kp.alloc _ _ _)).trans (Kp.alloc _ _ _)
  have hr3 : W3.heap[rb]? = _ := (hkW.block rb hlt (by simp)).trans HR.out
  have hm3 : W3.heap[mb]? = _ := (hkW.block mb hltm (by simp)).trans HM.out
  have hb0 : W3.cell? ⟨w.heap.size, 0, none⟩ = some (.pointer (some ⟨rb, 0, none⟩)) := by rw [hW3]; exact cell_past (cell_past cell_new0)
  have hb1 : W3.cell? ⟨w.heap.size + 1, 0, none⟩ = some (.int .i64 o) := by rw [hW3]; exact cell_past cell_new1
  have hb2 : W3.cell? ⟨w.heap.size + 1 + 1, 0, none⟩ = some (.int .i64 m) := by rw [hW3]; exact cell_new2
  have hst := And.intro hb0 (And.intro hb1 (And.intro hb2 (cell_two0 hr3)))
  have HR3 := hid hr3
  have HM3 := hid hm3
  have HK3 := hid hkW
  have hwr : IntKind.i64.wrap ((o : Int) + (m : Int)) = (o : Int) + (m : Int) := IntWalk.i64_in _ ⟨by omega, by omega⟩
  clear hW3 hb0 hb1 hkW hr3 hm3 hb2 hc3 hm0
  by_cases hoc' : cap = o
  · have hm0 := hid (show m = 0 by omega)
    have hoc : (cap = o) = True := eq_true hoc'
    have HBS := hid (ar_part (w := W3.drew) (o := o) (m := 0) HM3.out HC.out (by omega) 0 0 (by omega) (fun h => by omega))
    have HBL := hid (show (part f o 0).length ≤ 140737488355328 by rw [part_length]; omega)
    go_region_held (fun w' => w'.cell? ⟨w.heap.size, 0, none⟩ = some (.pointer (some ⟨rb, 0, none⟩)) ∧ w'.cell? ⟨w.heap.size + 1, 0, none⟩ = some (.int .i64 o) ∧ w'.cell? ⟨w.heap.size + 1 + 1, 0, none⟩ = some (.int .i64 m) ∧ w'.cell? ⟨rb, 0, none⟩ = some (.slice (some ⟨mb, 0, none⟩) n cap))
      (first
        | exact keep4 hst (Kp.drew _ []) (by simp)
        | exact keep4 hst ((Kp.drew _ []).trans (Kp.grown hg4)) (by simp))
      ((go_at_call 114; refine (clone_any _ _ 0 0 (part f o 0) (part_length _ _ _) HBS.out HBL.out).mono ?_; rintro e w4 ⟨v4, rfl, hown4, hg4⟩))
    go_wp2
    go_ret2
    rw [part_length] at hown4
    have e0 := hm0.out
    subst e0
    exact ⟨_, rfl, owns_base hown4 HK3.out.size, HK3.out.trans ((Kp.drew _ _).trans (Kp.grown hg4))⟩
  · have hoc : (cap = o) = False := eq_false hoc'
    have HBS := hid (ar_part (w := W3.drew) (o := o) (m := m) HM3.out HC.out hfit o (cap - o) (by omega) (fun _ => rfl))
    have HBL := hid (show (part f o m).length ≤ 140737488355328 by rw [part_length]; omega)
    go_region_held (fun w' => w'.cell? ⟨w.heap.size, 0, none⟩ = some (.pointer (some ⟨rb, 0, none⟩)) ∧ w'.cell? ⟨w.heap.size + 1, 0, none⟩ = some (.int .i64 o) ∧ w'.cell? ⟨w.heap.size + 1 + 1, 0, none⟩ = some (.int .i64 m) ∧ w'.cell? ⟨rb, 0, none⟩ = some (.slice (some ⟨mb, 0, none⟩) n cap))
      (first
        | exact keep4 hst (Kp.drew _ []) (by simp)
        | exact keep4 hst ((Kp.drew _ []).trans (Kp.grown hg4)) (by simp))
      ((go_at_call 114; refine (clone_any _ _ m (cap - o) (part f o m) (part_length _ _ _) HBS.out HBL.out).mono ?_; rintro e w4 ⟨v4, rfl, hown4, hg4⟩))
    go_wp2
    go_ret2
    rw [part_length] at hown4
    exact ⟨_, rfl, owns_base hown4 HK3.out.size, HK3.out.trans ((Kp.drew _ _).trans (Kp.grown hg4))⟩
end Go.Proofs.YtgefmnnkpffpcaaGreatDoor
