/- Copy: another arena with the same bytes and cost; ref.Same; what stands. -/
import Derived.Test.YtihlejphjdelfaaRefIo
namespace Go.Proofs.Ytihlejphjdelfaa
open Go.RowKit
set_option linter.unusedVariables false

theorem ar_of_owned {w w1 : World} {base n : Nat} {v : Value} {f : Nat → Int} {c : Int} (hn : 0 < n) (hby : ∀ i, i < n → 0 ≤ f i ∧ f i < 256) (hown : w1.ownsRow base 5 1 v n (ub (part f 0 n))) :
    ∃ mb, base ≤ mb ∧ mb < w1.heap.size ∧ Ar (w1.alloc (.cells #[v, .int .i64 c] 56)) w1.heap.size mb n f c := by
  rcases hown.2 with ⟨hc, h0⟩ | ⟨g, cap, cur, rfl, hb, hg, hnc, hcm, hcs, htake⟩
  · omega
  · have hlt := lt_of_block hg
    refine ⟨g, hb, hlt, cap, cur, heap_alloc_new w1 _, (Below.heap_alloc w1 _ _ hlt).trans hg, hnc, by omega, hcm, fun i hi => ⟨?_, hby i hi⟩⟩
    have : (cur.toList.take (n * 1))[i]? = some (.int .u8 (f i)) := by rw [htake]; simp [ub, part, hi]
    rw [List.getElem?_take_of_lt (by omega)] at this
    simpa using this

theorem Ar.byt {w : World} {rb mb n : Nat} {f : Nat → Int} {c : Int} (h : Ar w rb mb n f c) {i : Nat} (hi : i < n) : 0 ≤ f i ∧ f i < 256 := by
  obtain ⟨cap, cur, hr, hm, a1, a2, a3, a4⟩ := h
  exact (a4 i hi).2

set_option maxRecDepth 100000 in
set_option maxHeartbeats 1000000 in
theorem copy_ok (w : World) (rb mb n : Nat) (f : Nat → Int) (c : Int) (h : Ar w rb mb n f c) (hn0 : 0 < n) (hn : n ≤ 65536) :
    Calls Try.prog 29 #[.pointer (some ⟨rb, 0, none⟩)] w fun e w' => ∃ rb' mb', e = .returned (.pointer (some ⟨rb', 0, none⟩)) ∧ Ar w' rb' mb' n f c ∧ w.heap.size ≤ rb' ∧ w.heap.size ≤ mb' ∧ Kp w w' [] := by
  have H := hid h
  obtain ⟨cap, cur, hr, hm, hncap, hcap, hmax, hcur⟩ := h
  have hc0 := cell_two0 hr
  have hc1 := cell_two1 hr
  have hnn := fun w : World => not_nil w mb n cap
  have HBS := hid (ar_part (w := w.drew) (o := 0) (m := n) hm hcur (by omega) 0 cap hncap (fun _ => rfl))
  have HBL := hid (show (part f 0 n).length ≤ 140737488355328 by rw [part_length]; omega)
  have hst := And.intro hc0 hc1
  clear hr hm hcur
  go_enter Try.func29, Try.ntmps29
  go_wp2_with (go_at_call 41; go_in)
  clear hnn hc0 hc1
  go_region_held (fun w' => w'.cell? ⟨rb, 0, none⟩ = some (.slice (some ⟨mb, 0, none⟩) n cap) ∧ w'.cell? ⟨rb, 1, none⟩ = some (.int .i64 c))
    (first
      | exact keep2 hst (Kp.drew _ []) (by simp)
      | exact keep2 hst ((Kp.drew _ []).trans (Kp.grown hg4)) (by simp)
      | exact keep2 hst (((Kp.drew _ []).trans (Kp.grown hg4)).trans (Kp.alloc _ _ _)) (by simp))
    ((go_at_call 40; refine (clone_any _ _ n cap (part f 0 n) (part_length _ _ _) HBS.out HBL.out).mono ?_; rintro e w4 ⟨v4, rfl, hown4, hg4⟩; obtain ⟨ao4, cap4, rfl⟩ := owns_shape hown4))
  have HG := hid ((Kp.drew w []).trans (Kp.grown hg4))
  rw [part_length] at hown4
  obtain ⟨mb', hb', hlt', hA⟩ := ar_of_owned (w := w) (c := c) hn0 (fun i hi => H.out.byt hi) hown4
  have HA := hid hA
  have HB := hid hb'
  have HS := hid HG.out.size
  clear hA hb' hlt' hown4 hg4
  rw [part_length]
  go_wp2
  go_ret
  exact ⟨_, _, rfl, HA.out, HS.out, HB.out, HG.out.trans (Kp.alloc _ _ _)⟩

theorem rf_conv {w : World} {rb mb n : Nat} {f : Nat → Int} {c : Int} (h : Rf w rb mb n f c) : ∃ cap, n ≤ cap ∧ w.cell? ⟨rb, 0, none⟩ = some (.slice (some ⟨mb, 0, none⟩) n cap) ∧ w.cell? ⟨rb, 1, none⟩ = some (.int .i64 c) ∧ ∀ q, (convert 36 9 (.slice (some ⟨mb, 0, none⟩) n cap)).run Try.prog (w.drewN q) = .ok (.string (strOfNums (part f 0 n))) (w.drewN q) := by
  obtain ⟨cap, cur, hr, hm, hncap, hcap, hmax, hcur⟩ := h
  refine ⟨cap, hncap, cell_two0 hr, cell_two1 hr, fun q => ?_⟩
  have hb := ar_part (w := w.drewN q) (o := 0) (m := n) hm hcur (by omega) 0 cap hncap (fun _ => rfl)
  have hv := conv_bs hb
  rw [part_length] at hv
  exact hv

set_option maxRecDepth 100000 in
theorem rsame_ok (w : World) (rb mb n : Nat) (f : Nat → Int) (c : Int) (rb' mb' n' : Nat) (f' : Nat → Int) (c' : Int) (h : Rf w rb mb n f c) (h' : Rf w rb' mb' n' f' c') :
    Calls Try.prog 15 #[.pointer (some ⟨rb, 0, none⟩), .pointer (some ⟨rb', 0, none⟩)] w fun e w' => e = .returned (.bool ((strOfNums (part f 0 n)).toList == (strOfNums (part f' 0 n')).toList)) ∧ Kp w w' [] := by
  obtain ⟨cap, -, hc0, -, hv⟩ := rf_conv h
  obtain ⟨cap', -, hc0', -, hv'⟩ := rf_conv h'
  clear h h'
  go_enter Try.func15, Try.ntmps15
  go_wp2_with fail
  go_quiet (fail)
  go_wp2
  go_ret
  exact ⟨rfl, Kp.drewN _ _ _⟩
set_option maxRecDepth 100000 in
theorem rsame_nil (w : World) (p q : Option Addr) (h : p = none ∨ q = none) :
    Calls Try.prog 15 #[.pointer p, .pointer q] w fun e w' => e = .returned (.bool (p.isNone && q.isNone)) ∧ w' = w := by
  cases p with
  | none =>
    cases q with
    | none =>
      go_enter Try.func15, Try.ntmps15
      go_wp2
      go_ret
      exact ⟨rfl, rfl⟩
    | some a =>
      go_enter Try.func15, Try.ntmps15
      go_wp2
      go_ret
      exact ⟨rfl, rfl⟩
  | some a =>
    obtain rfl : q = none := by simpa using h
    go_enter Try.func15, Try.ntmps15
    go_wp2
    go_ret
    exact ⟨rfl, rfl⟩

set_option maxRecDepth 100000 in
set_option maxHeartbeats 1000000 in
theorem stands_ok (w : World) (rb mb n : Nat) (f : Nat → Int) (c : Int) (rr mr : Nat) (h : Ar w rb mb n f c) (h' : Rf w rr mr n f c) (hn : n ≤ 65536) :
    Calls Try.prog 12 #[.pointer (some ⟨rb, 0, none⟩), .pointer (some ⟨rr, 0, none⟩)] w fun e w' => e = .returned (.bool true) ∧ Kp w w' [] := by
  have H := hid h
  have H' := hid h'
  obtain ⟨cap', -, hc0', hc1', hv'⟩ := rf_conv h'
  clear h h'
  go_enter Try.func12, Try.ntmps12
  go_wp2_with fail
  have hz : ((0 : Nat) : Int) = 0 := rfl
  refine (read_ok w rb mb n 0 n f c H.out hn (by omega)).mono ?_
  rintro e w1 ⟨v, rfl, hown, hk1⟩
  obtain ⟨ao, cp, rfl⟩ := owns_shape hown
  obtain ⟨cap1, -, u0, u1, hv1⟩ := rf_conv (H'.out.keep hk1 (by simp) (by simp))
  have hcv : ∀ q, (convert 36 9 (.slice ao n cp)).run Try.prog (w1.drewN q) = .ok (.string (strOfNums (part f 0 n))) (w1.drewN q) := by
    intro q
    have hb := Bs.of_owns (w := w1.drewN q) (l := part f 0 n) (v := .slice ao n cp) (base := w.heap.size) (by rw [part_length]; exact hown)
    exact conv_bs hb
  have HA1 := hid (H.out.keep hk1 (by simp) (by simp))
  have HK1 := hid hk1
  clear hown hk1 hc0' hc1' hv'
  go_wp2_with fail
  go_quiet (first
    | (go_at_call 9; exact Calls.quiet_of_same (num_any _ _))
    | (go_at_call 23; exact Calls.quiet_of_same (size_ok _ rb mb n f c (HA1.out.keep (Kp.drewN _ _ []) (by simp) (by simp))))
    | (go_at_call 19; exact Calls.quiet_of_same (cost_ok _ rb mb n f c (HA1.out.keep (Kp.drewN _ _ []) (by simp) (by simp)))))
  go_wp2
  go_ret
  exact ⟨rfl, HK1.out.trans (Kp.drewN _ _ _)⟩
end Go.Proofs.Ytihlejphjdelfaa
