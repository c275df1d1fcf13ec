/- Size, Cost, Reset. -/
import Derived.Test.YtgefmnnkpffpcaaGreatDoorPutJ
namespace Go.Proofs.YtgefmnnkpffpcaaGreatDoor
open Go.RowKit

theorem ar_conv {w : World} {rb mb n : Nat} {f : Nat → Int} {c : Int} (h : Ar w rb mb n f c) : ∃ cap, w.cell? ⟨rb, 0, none⟩ = some (.slice (some ⟨mb, 0, none⟩) n cap) ∧ w.cell? ⟨rb, 1, none⟩ = some (.int .i64 c) ∧ (convert 40 9 (.slice (some ⟨mb, 0, none⟩) n cap)).run Tryz.prog w = .ok (.string (strOfNums (part f 0 n))) w := by
  obtain ⟨cap, cur, hr, hm, hncap, hcap, hmax, hcur⟩ := h
  have hb := ar_part (w := w) (o := 0) (m := n) hm hcur (by omega) 0 cap hncap (fun _ => rfl)
  have hv := conv_bs hb
  rw [part_length] at hv
  exact ⟨cap, cell_two0 hr, cell_two1 hr, hv⟩

set_option maxRecDepth 100000 in
theorem size_ok (w : World) (rb mb n : Nat) (f : Nat → Int) (c : Int) (h : Ar w rb mb n f c) : Calls Tryz.prog 65 #[.pointer (some ⟨rb, 0, none⟩)] w fun e w' => e = .returned (.int .i64 n) ∧ w' = w := by
  obtain ⟨cap, hc0, -, -⟩ := ar_conv h
  have hnn := fun w : World => not_nil w mb n cap
  clear h
  go_enter Tryz.func65, Tryz.ntmps65
  go_wp2
  go_ret
  exact ⟨rfl, rfl⟩
set_option maxRecDepth 100000 in
theorem cost_ok (w : World) (rb mb n : Nat) (f : Nat → Int) (c : Int) (h : Ar w rb mb n f c) : Calls Tryz.prog 22 #[.pointer (some ⟨rb, 0, none⟩)] w fun e w' => e = .returned (.int .i64 c) ∧ w' = w := by
  obtain ⟨cap, hc0, hc1, -⟩ := ar_conv h
  have hnn := fun w : World => not_nil w mb n cap
  clear h
  go_enter Tryz.func22, Tryz.ntmps22
  go_wp2
  go_ret
  exact ⟨rfl, rfl⟩
set_option maxRecDepth 100000 in
theorem reset_ok (w : World) (rb mb n : Nat) (f : Nat → Int) (c : Int) (h : Ar w rb mb n f c) : Calls Tryz.prog 17 #[.pointer (some ⟨rb, 0, none⟩)] w fun e w' => e = .returned (.int .i64 c) ∧ Ar w' rb mb n f 0 ∧ Kp w w' [rb] := by
  have H := hid h
  obtain ⟨cap, cur, hr, hm, hncap, hcap, hmax, hcur⟩ := h
  have hc0 := cell_two0 hr
  have hc1 := cell_two1 hr
  have hf1 := free_two (i := 1) hr
  have hnn := fun w : World => not_nil w mb n cap
  have HR := hid hr
  have HM := hid hm
  have HC := hid hcur
  clear hr hm hcur
  go_enter Tryz.func17, Tryz.ntmps17
  go_wp2
  go_ret
  have hne := H.out.ne
  refine ⟨rfl, ⟨cap, cur, two_setCell1 HR.out, ((Kp.setCell w ⟨rb, 1, none⟩ _).block mb (H.out.lt.2) (by simp; omega)).trans HM.out, hncap, hcap, hmax, HC.out⟩, Kp.setCell w ⟨rb, 1, none⟩ _⟩
end Go.Proofs.YtgefmnnkpffpcaaGreatDoor
