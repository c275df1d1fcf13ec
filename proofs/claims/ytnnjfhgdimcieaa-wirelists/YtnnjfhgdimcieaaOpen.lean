/- slices.Clone at bytes, wire.Open: a reader of a copy. -/
import Derived.Test.YtnnjfhgdimcieaaWhole
namespace Go.Proofs.Ytnnjfhgdimcieaa
open Go.RowKit

theorem Bs.cells {w w' : World} {ao : Option Addr} {cap : Nat} {l : List Int} {a : Addr} (h : Bs w (.slice ao l.length cap) l) (ha : ao = some a) (hk : ∀ k, k < w.heap.size → w'.heap[k]? = w.heap[k]?) :
    ∀ j u, (ub l)[j]? = some u → w'.cell? (a.add j) = some u := by
  intro j u hu
  have hj : j < l.length := by have := (List.getElem?_eq_some_iff.1 hu).1; simpa [ub] using this
  have hne : l ≠ [] := by intro e; subst e; simp at hj
  have hk' := h.lt hne
  obtain ⟨ao', cap', hv, hl, hn, hc⟩ := h
  simp only [Value.slice.injEq, true_and] at hv
  obtain ⟨rfl, rfl⟩ := hv
  obtain ⟨b, off, rfl, hcell⟩ := hc hne
  simp only [Option.some.injEq] at ha
  subst ha
  rw [Addr.add_lit, World.cell?_of_block (w := w) (hk b (hk' b rfl)), hcell j hj]
  simp [ub, List.getElem?_eq_getElem hj] at hu
  simp [List.getElem?_eq_getElem hj, hu]

theorem grown_new {w w1 : World} {o : Obj} {row : Option Nat} (hg : (w.alloc o).grownBy w1 row) (hr : ∀ k, row = some k → w.heap.size ≤ k) : w.grownBy w1 none :=
  ⟨hg.os, hg.tape, hg.output, by have := hg.size; simp at this; omega, fun k hk _ => (hg.block k (by simp; omega) (fun e => by have := hr k e.symm; omega)).trans (Below.heap_alloc _ _ _ hk)⟩
theorem owns_shape {w : World} {base e s : Nat} {v : Value} {n : Nat} {xs : List Value} (h : w.ownsRow base e s v n xs) : ∃ ao cap, v = .slice ao n cap := by
  rcases h.2 with ⟨rfl, rfl⟩ | ⟨g, cap, cur, rfl, -⟩
  · exact ⟨_, _, rfl⟩
  · exact ⟨_, _, rfl⟩

theorem ub_one (l : List Int) : ∀ u ∈ ub l, u.oneCell' = true := ints_oneCell .u8 l

set_option maxRecDepth 100000 in
set_option maxHeartbeats 400000 in
theorem clone_any (w : World) (v : Value) (l : List Int) (h : Bs w v l) (hm : l.length ≤ 140737488355328) :
    Calls Try.prog 38 #[v] w fun e w' => ∃ v', e = .returned v' ∧ w'.ownsRow w.heap.size 5 1 v' l.length (ub l) ∧ w.grownBy w' none := by
  obtain ⟨i0, hi, hz0, hz1, hz2⟩ := info_parts Try.info5
  have H := hid h
  have Hm := hid hm
  obtain ⟨ao, cap, rfl, hl, hn, -⟩ := h
  clear hm
  cases ao with
  | none =>
    have h0 : l.length = 0 := by have := hn rfl; omega
    have hl0 : l = [] := List.eq_nil_of_length_eq_zero h0
    subst hl0
    obtain rfl : cap = 0 := hn rfl
    simp only [List.length_nil]
    clear H Hm hl hn h0
    have hnil := fun w : World => Lib.run_eql_slice_nil (P := Try.prog) w 23 5 none 0 0 0 0 Try.underlying23
    go_enter Try.func38, Try.ntmps38
    go_wp2
    go_ret
    exact ⟨_, rfl, World.ownsRow_nil _ _ _ _, World.grownBy.refl _ _⟩
  | some a =>
    have hnil := fun w : World => Lib.run_eql_slice_nil (P := Try.prog) w 23 5 (some a) l.length cap 0 0 Try.underlying23
    clear hl hn
    go_enter Try.func38, Try.ntmps38
    go_wp2_with (at_builtin; refine wpList_append_own _ rfl _ _ 23 rfl w.heap.size 5 i0 (.int .u8 0) 1 1 Try.underlying23 hi hz0 hz1 hz2 rfl (by decide) _ 0 [] rfl (World.ownsRow_lit w #[] 0 (Nat.le_refl _) (by unfold maxLen; omega) rfl) a l.length cap (ub l) rfl (by simp [ub]) (H.out.cells rfl fun k hk => Below.heap_alloc _ _ _ hk) (ub_one l) (by have := Hm.out; unfold maxLen; omega) (by have := Hm.out; omega) (by simp) ?_)
    intro v' w1 hown' hgrow _
    have HO := hid hown'
    have hg' := hid (grown_new hgrow (by simp [Value.ownBlock]))
    clear hown' hgrow
    go_wp2
    go_ret
    exact ⟨_, rfl, HO.out, hg'.out⟩

theorem rd_made {w w1 : World} {v : Value} {l : List Int} (hown : w1.ownsRow w.heap.size 5 1 v l.length (ub l)) :
    Rd (w1.alloc (.cells #[v, .bool true] 73)) w1.heap.size v l := by
  have hlt := hown.lt
  refine ⟨heap_alloc_new w1 _, (Bs.of_owns hown).keep fun k hk => Below.heap_alloc _ _ _ (hlt k hk).2, fun e => ?_⟩
  have := (hlt _ e).2
  omega

set_option maxRecDepth 100000 in
set_option maxHeartbeats 400000 in
theorem open_any (w : World) (v : Value) (l : List Int) (h : Bs w v l) (hm : l.length ≤ 140737488355328) :
    Calls Try.prog 19 #[v] w fun e w' => ∃ rb v', e = .returned (.pointer (some ⟨rb, 0, none⟩)) ∧ Rd w' rb v' l ∧ w.heap.size ≤ rb ∧ (∀ k, v'.ownBlock = some k → w.heap.size ≤ k ∧ k < w'.heap.size) ∧ w.grownBy w' none := by
  have H := hid h
  have Hm := hid hm
  obtain ⟨ao, cap, rfl, -, -, -⟩ := h
  clear hm
  go_enter Try.func19, Try.ntmps19
  go_wp2_with fail
  refine (clone_any w _ l H.out Hm.out).mono ?_
  rintro e w1 ⟨v', rfl, hown, hg⟩
  obtain ⟨ao', cap', rfl⟩ := owns_shape hown
  have HO := hid hown
  have HG := hid hg
  clear hown hg
  go_wp2
  go_ret
  exact ⟨_, _, rfl, rd_made HO.out, HG.out.size, (fun k hk => ⟨(HO.out.lt k hk).1, by have := (HO.out.lt k hk).2; simp; omega⟩), grownBy_trans HG.out (World.grownBy_alloc _ _ _)⟩
end Go.Proofs.Ytnnjfhgdimcieaa
