/- slices.Clone at bytes; Read: a copy of the bytes from the offset on. -/
import Derived.Test.YtihlejphjdelfaaPut
namespace Go.Proofs.Ytihlejphjdelfaa
open Go.RowKit

set_option maxRecDepth 100000 in
set_option maxHeartbeats 400000 in
theorem clone_any (w : World) (a : Addr) (m cap : Nat) (l : List Int) (hl : l.length = m) (h : Bs w (.slice (some a) l.length cap) l) (hm : l.length ≤ 140737488355328) :
    Calls Try.prog 40 #[.slice (some a) m cap] w fun e w' => ∃ v', e = .returned v' ∧ w'.ownsRow w.heap.size 5 1 v' l.length (ub l) ∧ w.grownBy w' none := by
  subst hl
  obtain ⟨i0, hi, hz0, hz1, hz2⟩ := info_parts Try.info5
  have H := hid h
  have Hm := hid hm
  clear hm h
  have hnil := fun w : World => Lib.run_eql_slice_nil (P := Try.prog) w 36 5 (some a) l.length cap 0 0 Try.underlying36
  go_enter Try.func40, Try.ntmps40
  go_wp2_with (at_builtin; refine wpList_append_own _ rfl _ _ 36 rfl w.heap.size 5 i0 (.int .u8 0) 1 1 Try.underlying36 hi hz0 hz1 hz2 rfl (by decide) _ 0 [] rfl (World.ownsRow_lit w #[] 0 (Nat.le_refl _) (by unfold maxLen; omega) rfl) a l.length cap (ub l) rfl (by simp [ub]) (H.out.cells rfl fun k hk => Below.heap_alloc _ _ _ hk) (ub_one l) (by have := Hm.out; unfold maxLen; omega) (by have := Hm.out; omega) (by simp) ?_)
  intro v' w1 hown' hgrow _
  have HO := hid hown'
  have hg' := hid (grown_new hgrow (by simp [Value.ownBlock]))
  clear hown' hgrow
  go_wp2
  go_ret
  exact ⟨_, rfl, HO.out, hg'.out⟩

theorem owns_base {w : World} {b b' e s : Nat} {v : Value} {n : Nat} {xs : List Value} (h : w.ownsRow b e s v n xs) (hb : b' ≤ b) : w.ownsRow b' e s v n xs := by
  refine ⟨h.1, ?_⟩
  rcases h.2 with h' | ⟨g, cap, cur, rfl, h1, h2⟩
  · exact .inl h'
  · exact .inr ⟨g, cap, cur, rfl, by omega, h2⟩

/-- m bytes from o on. -/
def part (f : Nat → Int) (o m : Nat) : List Int := (List.range m).map fun i => f (o + i)
theorem part_length (f : Nat → Int) (o m : Nat) : (part f o m).length = m := by simp [part]
theorem part_byt {f : Nat → Int} {o m n : Nat} (h : ∀ i, i < n → 0 ≤ f i ∧ f i < 256) (hfit : o + m ≤ n) : Byt (part f o m) := by
  intro x hx
  simp only [part, List.mem_map, List.mem_range] at hx
  obtain ⟨i, hi, rfl⟩ := hx
  exact h _ (by omega)

/-- The bytes of an arena as a slice of its memory: a slice at the head where the cut is at the very end. -/
theorem ar_part {w : World} {mb n o m : Nat} {f : Nat → Int} {cur : Array Value} (hm : w.heap[mb]? = some (.cells cur 5 (0, 0))) (hcur : ∀ i, i < n → cur[i]? = some (.int .u8 (f i)) ∧ 0 ≤ f i ∧ f i < 256) (hfit : o + m ≤ n) (a k : Nat) (hk : m ≤ k) (ha : 0 < m → a = o) :
    Bs w (.slice (some ⟨mb, a, none⟩) (part f o m).length k) (part f o m) := by
  refine ⟨_, k, rfl, by rw [part_length]; exact hk, fun h => by simp at h, fun hne => ⟨mb, a, rfl, fun i hi => ?_⟩⟩
  rw [part_length] at hi
  obtain rfl := ha (by omega)
  simp [World.cell?, hm, (hcur (a + i) (by omega)).1, part, hi]

set_option maxRecDepth 100000 in
set_option maxHeartbeats 1000000 in
theorem read_ok (w : World) (rb mb n o m : Nat) (f : Nat → Int) (c : Int) (h : Ar w rb mb n f c) (hn : n ≤ 65536) (hfit : o + m ≤ n) :
    Calls Try.prog 18 #[.pointer (some ⟨rb, 0, none⟩), .int .i64 o, .int .i64 m] w fun e w' => ∃ v, e = .returned (.tuple #[v, .int .i64 0]) ∧ w'.ownsRow w.heap.size 5 1 v m (ub (part f o m)) ∧ Kp w w' [] := by
  have hb : hasB n o m = true := decide_eq_true ⟨by omega, by omega, by omega⟩
  have HB := hid hb
  have H := hid h
  obtain ⟨cap, cur, hr, hm, hncap, hcap, hmax, hcur⟩ := h
  have hm0 := cell_two0 hr
  have hlt := lt_of_block hr
  have hltm := H.out.lt.2
  have HR := hid hr
  have HM := hid hm
  have HC := hid hcur
  have hc3 := fun o1 o2 o3 => cell_three (o1 := o1) (o2 := o2) (o3 := o3) hm0
  clear hr hm hb hcur
  go_enter Try.func18, Try.ntmps18
  go_wp2_with fail
  refine (read_ref _ w.heap.size (w.heap.size + 1) (w.heap.size + 2) rb mb n cap o m hn (by omega) (cell_past (cell_past cell_new0)) (cell_past cell_new1) cell_new2 (hc3 _ _ _)).mono ?_
  rintro e w1 ⟨rfl, rfl⟩
  rw [HB.out]
  go_wp2_with fail
  obtain ⟨W3, hW3⟩ : ∃ W3, W3 = (((w.alloc (.cells #[.pointer (some ⟨rb, 0, none⟩)] 23)).alloc (.cells #[.int .i64 o] 3)).alloc (.cells #[.int .i64 m] 3)) := ⟨_, rfl⟩
  rw [← hW3]
  have hkW : Kp w W3 [] := by rw [hW3]; exact ((Kp.alloc _ _ _).trans (Kp.alloc _ _ _)).trans (Kp.alloc _ _ _)
  have hr3 : W3.heap[rb]? = _ := (hkW.block rb hlt (by simp)).trans HR.out
  have hm3 : W3.heap[mb]? = _ := (hkW.block mb hltm (by simp)).trans HM.out
  have hb0 : W3.cell? ⟨w.heap.size, 0, none⟩ = some (.pointer (some ⟨rb, 0, none⟩)) := by rw [hW3]; exact cell_past (cell_past cell_new0)
  have hb1 : W3.cell? ⟨w.heap.size + 1, 0, none⟩ = some (.int .i64 o) := by rw [hW3]; exact cell_past cell_new1
  have hb2 : W3.cell? ⟨w.heap.size + 1 + 1, 0, none⟩ = some (.int .i64 m) := by rw [hW3]; exact cell_new2
  have hst := And.intro hb0 (And.intro hb1 (And.intro hb2 (cell_two0 hr3)))
  have HR3 := hid hr3
  have HM3 := hid hm3
  have HK3 := hid hkW
  have hwr : IntKind.i64.wrap ((o : Int) + (m : Int)) = (o : Int) + (m : Int) := IntWalk.i64_in _ ⟨by omega, by omega⟩
  clear hW3 hb0 hb1 hkW hr3 hm3 hb2 hc3 hm0
  by_cases hoc' : cap = o
  · have hm0 := hid (show m = 0 by omega)
    have hoc : (cap = o) = True := eq_true hoc'
    have HBS := hid (ar_part (w := W3.drew) (o := o) (m := 0) HM3.out HC.out (by omega) 0 0 (by omega) (fun h => by omega))
    have HBL := hid (show (part f o 0).length ≤ 140737488355328 by rw [part_length]; omega)
    go_region_held (fun w' => w'.cell? ⟨w.heap.size, 0, none⟩ = some (.pointer (some ⟨rb, 0, none⟩)) ∧ w'.cell? ⟨w.heap.size + 1, 0, none⟩ = some (.int .i64 o) ∧ w'.cell? ⟨w.heap.size + 1 + 1, 0, none⟩ = some (.int .i64 m) ∧ w'.cell? ⟨rb, 0, none⟩ = some (.slice (some ⟨mb, 0, none⟩) n cap))
      (first
        | exact keep4 hst (Kp.drew _ []) (by simp)
        | exact keep4 hst ((Kp.drew _ []).trans (Kp.grown hg4)) (by simp))
      ((go_at_call 40; refine (clone_any _ _ 0 0 (part f o 0) (part_length _ _ _) HBS.out HBL.out).mono ?_; rintro e w4 ⟨v4, rfl, hown4, hg4⟩))
    go_wp2
    go_ret2
    rw [part_length] at hown4
    have e0 := hm0.out
    subst e0
    exact ⟨_, rfl, owns_base hown4 HK3.out.size, HK3.out.trans ((Kp.drew _ _).trans (Kp.grown hg4))⟩
  · have hoc : (cap = o) = False := eq_false hoc'
    have HBS := hid (ar_part (w := W3.drew) (o := o) (m := m) HM3.out HC.out hfit o (cap - o) (by omega) (fun _ => rfl))
    have HBL := hid (show (part f o m).length ≤ 140737488355328 by rw [part_length]; omega)
    go_region_held (fun w' => w'.cell? ⟨w.heap.size, 0, none⟩ = some (.pointer (some ⟨rb, 0, none⟩)) ∧ w'.cell? ⟨w.heap.size + 1, 0, none⟩ = some (.int .i64 o) ∧ w'.cell? ⟨w.heap.size + 1 + 1, 0, none⟩ = some (.int .i64 m) ∧ w'.cell? ⟨rb, 0, none⟩ = some (.slice (some ⟨mb, 0, none⟩) n cap))
      (first
        | exact keep4 hst (Kp.drew _ []) (by simp)
        | exact keep4 hst ((Kp.drew _ []).trans (Kp.grown hg4)) (by simp))
      ((go_at_call 40; refine (clone_any _ _ m (cap - o) (part f o m) (part_length _ _ _) HBS.out HBL.out).mono ?_; rintro e w4 ⟨v4, rfl, hown4, hg4⟩))
    go_wp2
    go_ret2
    rw [part_length] at hown4
    exact ⟨_, rfl, owns_base hown4 HK3.out.size, HK3.out.trans ((Kp.drew _ _).trans (Kp.grown hg4))⟩
end Go.Proofs.Ytihlejphjdelfaa
