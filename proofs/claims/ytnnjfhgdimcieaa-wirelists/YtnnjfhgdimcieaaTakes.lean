/- (*wire.Reader).Bytes: all of them, or nothing. -/
import Derived.Test.YtnnjfhgdimcieaaBytes
namespace Go.Proofs.Ytnnjfhgdimcieaa
open Go.RowKit

set_option maxRecDepth 100000 in
set_option maxHeartbeats 400000 in
theorem rBytes_err (w : World) (rb : Nat) (v : Value) (l : List Int) (most e : Int) (h : Rd w rb v l) (hby : Byt l) (hm : l.length < 9223372036854775807) (hmo : most ≤ 9223372036854775807) (hq : rbytes most l = .error e) :
    Calls Try.prog 27 #[.pointer (some ⟨rb, 0, none⟩), .int .i64 most] w fun en w' => en = .returned (.tuple #[.slice none 0 0, .int .i64 e]) ∧ w.grownBy w' (some rb) ∧ Rd w' rb v l := by
  obtain ⟨ao, cap, rfl⟩ := h.shape
  have H := hid h
  have Hby := hid hby
  have Hm := hid hm
  have Hq := hid hq
  have hc0 := cell_two0 h.1
  have hc1 := cell_two1 h.1
  have hf0 := free_two (i := 0) h.1
  have hf1 := free_two (i := 1) h.1
  have hlt := lt_of_block h.1
  clear h hby hm hq
  go_enter Try.func27, Try.ntmps27
  go_wp2_with (first | (go_at_call 45; go_in) | (go_at_call 50; go_in) | (go_at_call 51; go_in))
  refine (bytes_err _ rb _ l most e ((H.out.alloc _).alloc _) Hby.out Hm.out hmo Hq.out).mono ?_
  rintro en w1 ⟨rfl, hne, hg1, v1, l1, hr1, -⟩
  have k0 := cell_two0 hr1.1
  have k1 := cell_two1 hr1.1
  have k2 := free_two (i := 0) hr1.1
  have k3 := free_two (i := 1) hr1.1
  have k4 : w1.heap[w.heap.size + 1]? = some (.cells #[.slice ao l.length cap, .bool true] 73 (0, 0)) := by
    have := kept_two hg1 (by simp; omega)
    simpa using this
  have k5 := cell_two0 k4
  have k6 := cell_two1 k4
  have k7 : (e != 0) = true := by simp [bne, hne]
  have HR := hid hr1
  have HG := hid hg1
  clear hr1 hg1 k4 hne
  go_wp2
  go_ret2
  exact ⟨rfl, grownBy_trans (grownBy_mono (World.grownBy_alloc w _ none)) (grown_back HG.out), rd_back (H.out.alloc _) HG.out HR.out⟩

set_option maxRecDepth 100000 in
set_option maxHeartbeats 400000 in
theorem rBytes_ok (w : World) (rb : Nat) (v : Value) (l : List Int) (most : Int) (d r : List Int) (h : Rd w rb v l) (hby : Byt l) (hm : l.length ≤ 140737488355328) (hmo : most ≤ 9223372036854775807) (hq : rbytes most l = .ok (d, r)) :
    Calls Try.prog 27 #[.pointer (some ⟨rb, 0, none⟩), .int .i64 most] w fun en w' => ∃ v', en = .returned (.tuple #[v', .int .i64 0]) ∧ w'.ownsRow w.heap.size 5 1 v' d.length (ub d) ∧ w.grownBy w' (some rb) ∧ ∃ v2, Rd w' rb v2 r ∧ v2.ownBlock = v.ownBlock := by
  obtain ⟨ao, cap, rfl⟩ := h.shape
  have H := hid h
  have Hby := hid hby
  have Hm := hid hm
  have Hq := hid hq
  have hc0 := cell_two0 h.1
  have hc1 := cell_two1 h.1
  have hlt := lt_of_block h.1
  clear h hby hm hq
  go_enter Try.func27, Try.ntmps27
  go_wp2_with (first | (go_at_call 45; go_in) | (go_at_call 50; go_in) | (go_at_call 51; go_in))
  refine (bytes_ok _ rb _ l most d r ((H.out.alloc _).alloc _) Hby.out Hm.out hmo Hq.out).mono ?_
  rintro en w1 ⟨v', rfl, hown, hg1, v1, hr1, ho1⟩
  have HO := hid hown
  have HR := hid hr1
  have HG := hid hg1
  have HB := hid ho1
  clear hr1 hg1 ho1 hown
  go_wp2
  go_ret2
  exact ⟨_, rfl, owns_base HO.out (by simp; omega), grownBy_trans (grownBy_mono (grownBy_trans (World.grownBy_alloc w _ none) (World.grownBy_alloc _ _ none))) HG.out, v1, HR.out, HB.out⟩
end Go.Proofs.Ytnnjfhgdimcieaa
