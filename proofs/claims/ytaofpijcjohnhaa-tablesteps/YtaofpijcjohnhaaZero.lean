/- Copy; a table that is not there. -/
import Derived.Test.YtaofpijcjohnhaaSame
namespace Go.Proofs.Ytaofpijcjohnhaa
open Go.RowKit

theorem info55 : (Try.prog.info? 55).map (fun i => (i.zero, i.size)) = some (some (.agg (tcs 0 T0)), 33) := by kernel_rfl
theorem tcs_size (n : Int) (T : Pl) : (tcs n T).size = 33 := by simp [tcs, pcl_length]
theorem size55 (n : Int) (T : Pl) : (Try.prog.info? 55).map (·.size) = some (tcs n T).size := by
  rw [(zero_of_info info55).2, tcs_size]
theorem one55 (n : Int) (T : Pl) : (tcs n T).all (·.oneCell') = true := all_oneCell_toArray (fun v hv => by
  rcases List.mem_cons.1 hv with rfl | hv
  · rfl
  · exact pcl_one T 16 0 v hv)

set_option maxRecDepth 100000 in
theorem copy_ok (w : World) (tb : Nat) (n : Int) (T : Pl) (h : Tt w tb n T) (h1 : 1 ≤ n) : Calls Try.prog 24 #[.pointer (some ⟨tb, 0, none⟩)] w fun e w' => e = .returned (.pointer (some ⟨w.heap.size, 0, none⟩)) ∧ w' = w.alloc (.cells (tcs n T) 55) := by
  have cz := zero_ok w tb n T h h1
  have HT := hid h
  have z55 := (zero_of_info info55).1
  clear h
  go_enter Try.func24, Try.ntmps24
  go_wp2_with (first | (go_at_call 29; refine cz.mono ?_; rintro e w' ⟨rfl, rfl⟩) | (refine wpList_load_row rfl 55 (.tmp 7) rfl tb rfl 55 (tcs n T) (0, 0) _ HT.out Try.underlying55 rfl (size55 n T) ?_) | (refine wpList_store_new rfl 55 (.tmp 3) (.tmp 8) rfl 55 _ (tcs n T) rfl rfl (size55 n T) (by simp [tcs_size]) (one55 n T) ?_))
  go_ret
  exact ⟨rfl, rfl⟩

set_option maxRecDepth 100000 in
theorem zcopy (w : World) (p : Option Addr) (h : Zt w p) : Calls Try.prog 24 #[.pointer p] w fun e w' => e = .returned (.pointer none) ∧ w' = w := by
  have cz := zero_yes w p h
  clear h
  go_enter Try.func24, Try.ntmps24
  go_wp2_with (go_at_call 29; refine cz.mono ?_; rintro e w' ⟨rfl, rfl⟩)
  go_ret
  exact ⟨rfl, rfl⟩
set_option maxRecDepth 100000 in
theorem zadd (w : World) (p : Option Addr) (h : Zt w p) : Calls Try.prog 17 #[.pointer p] w fun e w' => e = .returned (.tuple #[.int .i64 0, .int .i64 1]) ∧ w' = w := by
  have cz := zero_yes w p h
  clear h
  go_enter Try.func17, Try.ntmps17
  go_wp2_with (go_at_call 29; refine cz.mono ?_; rintro e w' ⟨rfl, rfl⟩)
  go_ret2
  exact ⟨rfl, rfl⟩
set_option maxRecDepth 100000 in
theorem zdrop (w : World) (p : Option Addr) (x : Int) (h : Zt w p) : Calls Try.prog 18 #[.pointer p, .int .i64 x] w fun e w' => e = .returned (.int .i64 1) ∧ w' = w := by
  have cz := zero_yes w p h
  clear h
  go_enter Try.func18, Try.ntmps18
  go_wp2_with (go_at_call 29; refine cz.mono ?_; rintro e w' ⟨rfl, rfl⟩)
  go_ret
  exact ⟨rfl, rfl⟩
set_option maxRecDepth 100000 in
theorem zof (w : World) (p : Option Addr) (h : Zt w p) : Calls Try.prog 21 #[.pointer p, .int .i64 0] w fun e w' => e = .returned (.tuple #[.int .i64 0, .bool false]) ∧ w' = w := by
  have cp := places_vw w p 0 T0 (.inr ⟨h, rfl, rfl⟩)
  clear h
  go_enter Try.func21, Try.ntmps21
  go_wp2_with (go_at_call 27; refine cp.mono ?_; rintro e w' ⟨rfl, rfl⟩)
  go_ret2
  exact ⟨rfl, rfl⟩
set_option maxRecDepth 100000 in
theorem zat (w : World) (p : Option Addr) (h : Zt w p) : Calls Try.prog 12 #[.pointer p, .int .i64 16] w fun e w' => e = .returned (.tuple #[.int .i64 0, .bool false]) ∧ w' = w := by
  have co := zof w p h
  clear h
  go_enter Try.func12, Try.ntmps12
  go_wp2_with (go_at_call 21; refine co.mono ?_; rintro e w' ⟨rfl, rfl⟩)
  go_ret2
  exact ⟨rfl, rfl⟩
theorem tkp0 : tkp T0 16 = [] := tkp_none fun _ _ => rfl
theorem zlen (w : World) (p : Option Addr) (h : Zt w p) : Calls Try.prog 19 #[.pointer p] w fun e w' => e = .returned (.int .i64 0) ∧ Kp w w' [] := by
  have := len_its w p T0 (its_zero h)
  rw [tkp0] at this
  exact this
end Go.Proofs.Ytaofpijcjohnhaa
