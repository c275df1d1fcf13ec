/- New. -/
import Derived.Test.YtoaceeddcnijoaaWh
namespace Go.Proofs.Ytoaceeddcnijoaa
open Go.RowKit Go.Shelf Go.Lib Go.Sort

theorem zero50 (w : World) : (zeroValue 50).run Try.prog w = .ok (.agg (vcl (fun _ => .slice none 0 0) 64 0 ++ [Value.bool false]).toArray) w := by kernel_rfl
set_option maxRecDepth 100000 in
theorem new_any (w : World) : Calls Try.prog 8 #[] w fun e w' => e = .returned (.pointer (some ⟨w.heap.size, 0, none⟩)) ∧ Wh w' w.heap.size (fun _ => .slice none 0 0) (fun _ => []) ∧ Kp w w' [] := by
  go_enter Try.func8, Try.ntmps8
  have hz := zero50 w
  go_wp2_with fail
  go_ret
  refine ⟨rfl, ⟨?_, fun s _ => Dr.nil _ _, fun s t g _ _ h1 _ => by simp [Value.ownBlock] at h1⟩, Kp.alloc _ _ _⟩
  have h := heap_alloc_new w (.cells ((vcl (fun _ => Value.slice none 0 0) 64 0 ++ [Value.bool false]).set 64 (Value.bool true)).toArray 50)
  rw [List.set_append_right _ _ (by rw [vcl_length]; omega), vcl_length] at h
  rw [List.set_append_right _ _ (by rw [vcl_length]; omega), vcl_length]
  exact h

end Go.Proofs.Ytoaceeddcnijoaa
