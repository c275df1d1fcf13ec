/- (*wire.Reader).Number: all of a number, or nothing. -/
import Derived.Test.YtnnjfhgdimcieaaRead
namespace Go.Proofs.Ytnnjfhgdimcieaa
open Go.RowKit

theorem Rd.keep {w w' : World} {rb : Nat} {v : Value} {l : List Int} {row : Option Nat} (h : Rd w rb v l) (hg : w.grownBy w' row) (h1 : row ≠ some rb) (h2 : row = none ∨ v.ownBlock ≠ row) : Rd w' rb v l := by
  refine ⟨(hg.block rb (lt_of_block h.1) (fun e => h1 e.symm)).trans h.1, ?_, h.2.2⟩
  by_cases hl : l = []
  · subst hl
    obtain ⟨ao, cap, rfl, a, b, c⟩ := h.2.1
    exact ⟨ao, cap, rfl, a, b, fun h => absurd rfl h⟩
  · exact h.2.1.keep fun k hk => hg.block k (h.2.1.lt hl k hk) (fun e => by rcases h2 with h2 | h2 <;> simp_all)
theorem Rd.alloc {w : World} {rb : Nat} {v : Value} {l : List Int} (h : Rd w rb v l) (o : Obj) : Rd (w.alloc o) rb v l := h.keep (World.grownBy_alloc w o none) (by simp) (.inl rfl)

theorem Rd.shape {w : World} {rb : Nat} {v : Value} {l : List Int} (h : Rd w rb v l) : ∃ ao cap, v = .slice ao l.length cap := by
  obtain ⟨-, ⟨ao, cap, rfl, -⟩, -⟩ := h
  exact ⟨_, _, rfl⟩

/-- What is left behind a reading: the rest, or all of it. -/
def rest {α : Type} (o : Option (α × List Int)) (l : List Int) : List Int := match o with | some (_, r) => r | none => l

/-- What 'whole' kept aside: the cells of its copy, and of the reader, behind the reading. -/
theorem kept_two {w w1 : World} {rb : Nat} {a b : Value} (hg : (w.alloc (.cells #[a, b] 73)).grownBy w1 (some rb)) (hlt : rb < w.heap.size) :
    w1.heap[w.heap.size]? = some (.cells #[a, b] 73 (0, 0)) := by
  rw [hg.block w.heap.size (by simp) (by simp; omega)]
  exact heap_alloc_new w _
theorem rd_back {w w1 : World} {rb : Nat} {v v1 : Value} {l l1 : List Int} {o : Obj} (h : Rd w rb v l) (hg : (w.alloc o).grownBy w1 (some rb)) (h1 : Rd w1 rb v1 l1) :
    Rd ((w1.setCell ⟨rb, 0, none⟩ v).setCell ⟨rb, 1, none⟩ (.bool true)) rb v l := by
  refine ⟨two_setCell1 (two_setCell h1.1), ?_, h.2.2⟩
  by_cases hl : l = []
  · subst hl
    obtain ⟨ao, cap, rfl, a, b, c⟩ := h.2.1
    exact ⟨ao, cap, rfl, a, b, fun h => absurd rfl h⟩
  · refine h.2.1.keep fun k hk => ?_
    have hne : k ≠ rb := fun e => h.2.2 (by rw [hk, e])
    have hlt := h.2.1.lt hl k hk
    rw [Below.heap_setCell _ _ _ _ hne, Below.heap_setCell _ _ _ _ hne, hg.block k (by simp; omega) (by simpa using hne), Below.heap_alloc _ _ _ hlt]
theorem grown_back {w w1 : World} {rb : Nat} {a b : Value} {o : Obj} (hg : (w.alloc o).grownBy w1 (some rb)) : w.grownBy ((w1.setCell ⟨rb, 0, none⟩ a).setCell ⟨rb, 1, none⟩ b) (some rb) :=
  grownBy_trans (grownBy_mono (World.grownBy_alloc w o none)) (grownBy_trans hg (grownBy_trans (grownBy_setCell _ ⟨rb, 0, none⟩ _) (grownBy_setCell _ ⟨rb, 1, none⟩ _)))

set_option maxRecDepth 100000 in
set_option maxHeartbeats 400000 in
theorem rNumber_no (w : World) (rb : Nat) (v : Value) (l : List Int) (h : Rd w rb v l) (hby : Byt l) (hm : l.length < 9223372036854775807) (hq : rnum 0 0 l = none) :
    Calls Try.prog 25 #[.pointer (some ⟨rb, 0, none⟩)] w fun e w' => e = .returned (.tuple #[.int .u64 0, .int .i64 4]) ∧ w.grownBy w' (some rb) ∧ Rd w' rb v l := by
  obtain ⟨ao, cap, rfl⟩ := h.shape
  have H := hid h
  have Hby := hid hby
  have Hm := hid hm
  have Hq := hid hq
  have hc0 := cell_two0 h.1
  have hc1 := cell_two1 h.1
  have hf0 := free_two (i := 0) h.1
  have hf1 := free_two (i := 1) h.1
  have hlt := lt_of_block h.1
  clear h hby hm hq
  go_enter Try.func25, Try.ntmps25
  go_wp2_with (first | (go_at_call 47; refine (rnumber_no _ rb _ l (H.out.alloc _) Hby.out Hm.out Hq.out).mono ?_; rintro e w1 ⟨rfl, hg1, v1, l1, hr1, -⟩; have k0 := cell_two0 hr1.1; have k1 := cell_two1 hr1.1; have k2 := free_two (i := 0) hr1.1; have k3 := free_two (i := 1) hr1.1; have k4 := kept_two hg1 hlt; have k5 := cell_two0 k4; have k6 := cell_two1 k4; have HR := hid hr1; have HG := hid hg1; clear hr1 hg1 k4) | go_in)
  go_ret2
  exact ⟨rfl, grown_back HG.out, rd_back H.out HG.out HR.out⟩

set_option maxRecDepth 100000 in
set_option maxHeartbeats 400000 in
theorem rNumber_yes (w : World) (rb : Nat) (v : Value) (l : List Int) (n : Nat) (r : List Int) (h : Rd w rb v l) (hby : Byt l) (hm : l.length < 9223372036854775807) (hq : rnum 0 0 l = some (n, r)) :
    Calls Try.prog 25 #[.pointer (some ⟨rb, 0, none⟩)] w fun e w' => e = .returned (.tuple #[.int .u64 n, .int .i64 0]) ∧ w.grownBy w' (some rb) ∧ ∃ v', Rd w' rb v' r ∧ v'.ownBlock = v.ownBlock := by
  obtain ⟨ao, cap, rfl⟩ := h.shape
  have H := hid h
  have Hby := hid hby
  have Hm := hid hm
  have Hq := hid hq
  have hc0 := cell_two0 h.1
  have hc1 := cell_two1 h.1
  clear h hby hm hq
  go_enter Try.func25, Try.ntmps25
  go_wp2_with (first | (go_at_call 47; refine (rnumber_yes _ rb _ l n r (H.out.alloc _) Hby.out Hm.out Hq.out).mono ?_; rintro e w1 ⟨rfl, hg1, v1, hr1, ho1⟩; have HB := hid ho1; clear ho1; have HR := hid hr1; have HG := hid hg1; clear hr1 hg1) | go_in)
  go_ret2
  exact ⟨rfl, grownBy_trans (grownBy_mono (World.grownBy_alloc w _ none)) HG.out, v1, HR.out, HB.out⟩
end Go.Proofs.Ytnnjfhgdimcieaa
