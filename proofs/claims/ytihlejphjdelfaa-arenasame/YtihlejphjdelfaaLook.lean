/- Size, Cost, Reset, Same. -/
import Derived.Test.YtihlejphjdelfaaTake
import Derived.Test.YtihlejphjdelfaaNo
namespace Go.Proofs.Ytihlejphjdelfaa
open Go.RowKit

theorem ar_conv {w : World} {rb mb n : Nat} {f : Nat → Int} {c : Int} (h : Ar w rb mb n f c) : ∃ cap, w.cell? ⟨rb, 0, none⟩ = some (.slice (some ⟨mb, 0, none⟩) n cap) ∧ w.cell? ⟨rb, 1, none⟩ = some (.int .i64 c) ∧ (convert 36 9 (.slice (some ⟨mb, 0, none⟩) n cap)).run Try.prog w = .ok (.string (strOfNums (part f 0 n))) w := by
  obtain ⟨cap, cur, hr, hm, hncap, hcap, hmax, hcur⟩ := h
  have hb := ar_part (w := w) (o := 0) (m := n) hm hcur (by omega) 0 cap hncap (fun _ => rfl)
  have hv := conv_bs hb
  rw [part_length] at hv
  exact ⟨cap, cell_two0 hr, cell_two1 hr, hv⟩

set_option maxRecDepth 100000 in
theorem size_ok (w : World) (rb mb n : Nat) (f : Nat → Int) (c : Int) (h : Ar w rb mb n f c) : Calls Try.prog 23 #[.pointer (some ⟨rb, 0, none⟩)] w fun e w' => e = .returned (.int .i64 n) ∧ w' = w := by
  obtain ⟨cap, hc0, -, -⟩ := ar_conv h
  have hnn := fun w : World => not_nil w mb n cap
  clear h
  go_enter Try.func23, Try.ntmps23
  go_wp2
  go_ret
  exact ⟨rfl, rfl⟩
set_option maxRecDepth 100000 in
theorem cost_ok (w : World) (rb mb n : Nat) (f : Nat → Int) (c : Int) (h : Ar w rb mb n f c) : Calls Try.prog 19 #[.pointer (some ⟨rb, 0, none⟩)] w fun e w' => e = .returned (.int .i64 c) ∧ w' = w := by
  obtain ⟨cap, hc0, hc1, -⟩ := ar_conv h
  have hnn := fun w : World => not_nil w mb n cap
  clear h
  go_enter Try.func19, Try.ntmps19
  go_wp2
  go_ret
  exact ⟨rfl, rfl⟩
set_option maxRecDepth 100000 in
theorem reset_ok (w : World) (rb mb n : Nat) (f : Nat → Int) (c : Int) (h : Ar w rb mb n f c) : Calls Try.prog 22 #[.pointer (some ⟨rb, 0, none⟩)] w fun e w' => e = .returned (.int .i64 c) ∧ Ar w' rb mb n f 0 ∧ Kp w w' [rb] := by
  have H := hid h
  obtain ⟨cap, cur, hr, hm, hncap, hcap, hmax, hcur⟩ := h
  have hc0 := cell_two0 hr
  have hc1 := cell_two1 hr
  have hf1 := free_two (i := 1) hr
  have hnn := fun w : World => not_nil w mb n cap
  have HR := hid hr
  have HM := hid hm
  have HC := hid hcur
  clear hr hm hcur
  go_enter Try.func22, Try.ntmps22
  go_wp2
  go_ret
  have hne := H.out.ne
  refine ⟨rfl, ⟨cap, cur, two_setCell1 HR.out, ((Kp.setCell w ⟨rb, 1, none⟩ _).block mb (H.out.lt.2) (by simp; omega)).trans HM.out, hncap, hcap, hmax, HC.out⟩, Kp.setCell w ⟨rb, 1, none⟩ _⟩
set_option maxRecDepth 100000 in
theorem same_ok (w : World) (rb mb n : Nat) (f : Nat → Int) (c : Int) (rb' mb' n' : Nat) (f' : Nat → Int) (c' : Int) (h : Ar w rb mb n f c) (h' : Ar w rb' mb' n' f' c') :
    Calls Try.prog 14 #[.pointer (some ⟨rb, 0, none⟩), .pointer (some ⟨rb', 0, none⟩)] w fun e w' => e = .returned (.bool ((strOfNums (part f 0 n)).toList == (strOfNums (part f' 0 n')).toList)) ∧ w' = w := by
  obtain ⟨cap, hc0, -, hv⟩ := ar_conv h
  obtain ⟨cap', hc0', -, hv'⟩ := ar_conv h'
  have hnn := fun w : World => not_nil w mb n cap
  have hnn' := fun w : World => not_nil w mb' n' cap'
  clear h h'
  go_enter Try.func14, Try.ntmps14
  go_wp2
  go_ret
  exact ⟨rfl, rfl⟩
set_option maxRecDepth 100000 in
theorem same_nil (w : World) (rb mb n : Nat) (f : Nat → Int) (c : Int) (h : Ar w rb mb n f c) :
    Calls Try.prog 14 #[.pointer (some ⟨rb, 0, none⟩), .pointer none] w fun e w' => e = .returned (.bool (strOfNums (part f 0 n)).toList.isEmpty) ∧ w' = w := by
  obtain ⟨cap, hc0, -, hv⟩ := ar_conv h
  have hnn := fun w : World => not_nil w mb n cap
  have hcv := conv_nil
  clear h
  go_enter Try.func14, Try.ntmps14
  go_wp2
  go_ret
  exact ⟨rfl, rfl⟩
set_option maxRecDepth 100000 in
theorem same_nil' (w : World) (rb mb n : Nat) (f : Nat → Int) (c : Int) (h : Ar w rb mb n f c) :
    Calls Try.prog 14 #[.pointer none, .pointer (some ⟨rb, 0, none⟩)] w fun e w' => e = .returned (.bool (strOfNums (part f 0 n)).toList.isEmpty) ∧ w' = w := by
  obtain ⟨cap, hc0, -, hv⟩ := ar_conv h
  have hnn := fun w : World => not_nil w mb n cap
  have hcv := conv_nil
  clear h
  go_enter Try.func14, Try.ntmps14
  go_wp2
  go_ret
  exact ⟨rfl, rfl⟩
set_option maxRecDepth 100000 in
theorem same_nils (w : World) : Calls Try.prog 14 #[.pointer none, .pointer none] w fun e w' => e = .returned (.bool true) ∧ w' = w := by
  have hcv := conv_nil
  go_enter Try.func14, Try.ntmps14
  go_wp2
  go_ret
  exact ⟨rfl, rfl⟩

theorem str_ne {l l' : List Int} (h : l.length ≠ l'.length) : ((strOfNums l).toList == (strOfNums l').toList) = false := by
  rw [beq_eq_false_iff_ne, sn_toList, sn_toList]
  intro e
  have := congrArg List.length e
  simp at this
  exact h this
theorem str_ne_empty {l : List Int} (h : l.length ≠ 0) : (strOfNums l).toList.isEmpty = false := by
  rw [sn_toList]
  cases l with
  | nil => simp at h
  | cons a r => rfl
end Go.Proofs.Ytihlejphjdelfaa
