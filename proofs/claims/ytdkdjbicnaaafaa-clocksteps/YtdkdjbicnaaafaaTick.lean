/- Tick. -/
import Derived.Test.YtdkdjbicnaaafaaLook
import Derived.WalkMore
namespace Go.Proofs.Ytdkdjbicnaaafaa
open Go.RowKit

theorem index2 (a b : Int) (w : World) : (Instr.index 38 (.agg #[.int .i64 a, .int .i64 b]) (.int .i64 0)).run Try.prog w = .ok (.int .i64 a) w ∧ (Instr.index 38 (.agg #[.int .i64 a, .int .i64 b]) (.int .i64 1)).run Try.prog w = .ok (.int .i64 b) w :=
  ⟨by kernel_rfl, by kernel_rfl⟩

set_option maxRecDepth 100000 in
theorem tick_any (w : World) (b : Nat) (x y : Int) (h : Ck w b x y) (hx : may x) (hy : may y) : Calls Try.prog 19 #[.pointer (some ⟨b, 0, none⟩)] w fun e w' => e = .returned (.int .i64 0) ∧ Ck w' b (tk x) (tk y) ∧ Kp w w' [b] := by
  have cz := zero_no w b x y h
  have c0 := h.c0
  have c1 := h.c1
  have f0 := h.free 0
  have f1 := h.free 1
  have H := hid h
  obtain ⟨x0, x1⟩ := hx
  obtain ⟨y0, y1⟩ := hy
  unfold tk
  obtain ⟨X, hX⟩ : ∃ X, min (x + 1) 1099511627776 = X := ⟨_, rfl⟩
  obtain ⟨Y, hY⟩ : ∃ Y, min (y + 1) 1099511627776 = Y := ⟨_, rfl⟩
  rw [hX, hY]
  have i0 := (index2 x y w).1
  have i1 := fun u => (index2 x y u).2
  have key := hid (show ∀ u v, u = X → v = Y → Ck ((w.setCell ⟨b, 0, none⟩ (.int .i64 u)).setCell ⟨b, 1, none⟩ (.int .i64 v)) b X Y from fun u v hu hv => by rw [hu, hv]; exact (h.set0 X).set1 Y)
  have HX := hid hX
  have HY := hid hY
  clear h hX hY H
  go_enter Try.func19, Try.ntmps19
  go_wp2_with (go_at_call 30; refine cz.mono ?_; rintro e w' ⟨rfl, rfl⟩)
  refine wp_loop_rounds 3 ?_
  rw [rounds_succ]
  go_wp2
  all_goals rw [rounds_succ]
  all_goals go_wp2
  all_goals rw [rounds_succ]
  all_goals go_wp2
  all_goals go_ret
  all_goals have hX := HX.out
  all_goals have hY := HY.out
  all_goals exact ⟨rfl, key.out _ _ (by omega) (by omega), (Kp.setCell _ ⟨b, 0, none⟩ _).trans (Kp.setCell _ ⟨b, 1, none⟩ _)⟩
end Go.Proofs.Ytdkdjbicnaaafaa
