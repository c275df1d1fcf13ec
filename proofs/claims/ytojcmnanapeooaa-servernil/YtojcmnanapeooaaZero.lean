/- No server: what all answer. -/
import Derived.Test.YtojcmnanapeooaaSame
namespace Go.Proofs.Ytojcmnanapeooaa
open Go.RowKit Go.Shelf

set_option maxRecDepth 100000 in
theorem zstart (w : World) (p : Option Addr) (now : Int) (h : Zs w p) : Calls Try.prog 14 #[.pointer p, .int .i64 now] w fun e w' => e = .returned (.int .i64 1) ∧ w' = w := by
  have cz := zero_yes w p h
  clear h
  go_enter Try.func14, Try.ntmps14
  go_wp2_with (go_at_call 30; refine cz.mono ?_; rintro e w' ⟨rfl, rfl⟩)
  go_ret
  exact ⟨rfl, rfl⟩
set_option maxRecDepth 100000 in
theorem zuse (w : World) (p : Option Addr) (h : Zs w p) : Calls Try.prog 15 #[.pointer p] w fun e w' => e = .returned (.tuple #[.bool false, .int .i64 1]) ∧ w' = w := by
  have cz := zero_yes w p h
  clear h
  go_enter Try.func15, Try.ntmps15
  go_wp2_with (go_at_call 30; refine cz.mono ?_; rintro e w' ⟨rfl, rfl⟩)
  go_ret2
  exact ⟨rfl, rfl⟩
set_option maxRecDepth 100000 in
theorem zstop (w : World) (p : Option Addr) (now : Int) (h : Zs w p) : Calls Try.prog 16 #[.pointer p, .int .i64 now] w fun e w' => e = .returned (.int .i64 1) ∧ w' = w := by
  have cz := zero_yes w p h
  clear h
  go_enter Try.func16, Try.ntmps16
  go_wp2_with (go_at_call 30; refine cz.mono ?_; rintro e w' ⟨rfl, rfl⟩)
  go_ret
  exact ⟨rfl, rfl⟩
set_option maxRecDepth 100000 in
theorem zactive (w : World) (p : Option Addr) (h : Zs w p) : Calls Try.prog 18 #[.pointer p] w fun e w' => e = .returned (.tuple #[.int .i64 0, .int .i64 0, .bool false]) ∧ w' = w := by
  have cz := zero_yes w p h
  clear h
  go_enter Try.func18, Try.ntmps18
  go_wp2_with (go_at_call 30; refine cz.mono ?_; rintro e w' ⟨rfl, rfl⟩)
  go_ret3
  exact ⟨rfl, rfl⟩
set_option maxRecDepth 100000 in
theorem zleft (w : World) (p : Option Addr) (h : Zs w p) : Calls Try.prog 19 #[.pointer p] w fun e w' => e = .returned (.int .i64 0) ∧ w' = w := by
  have cz := zero_yes w p h
  clear h
  go_enter Try.func19, Try.ntmps19
  go_wp2_with (go_at_call 30; refine cz.mono ?_; rintro e w' ⟨rfl, rfl⟩)
  go_ret
  exact ⟨rfl, rfl⟩
set_option maxRecDepth 100000 in
theorem zpieces (w : World) (p : Option Addr) (h : Zs w p) : Calls Try.prog 20 #[.pointer p] w fun e w' => e = .returned (.slice none 0 0) ∧ w' = w := by
  have cz := zero_yes w p h
  clear h
  go_enter Try.func20, Try.ntmps20
  go_wp2_with (go_at_call 30; refine cz.mono ?_; rintro e w' ⟨rfl, rfl⟩)
  go_ret
  exact ⟨rfl, rfl⟩
set_option maxRecDepth 100000 in
theorem zcopy (w : World) (p : Option Addr) (h : Zs w p) : Calls Try.prog 22 #[.pointer p] w fun e w' => e = .returned (.pointer none) ∧ w' = w := by
  have cz := zero_yes w p h
  clear h
  go_enter Try.func22, Try.ntmps22
  go_wp2_with (go_at_call 30; refine cz.mono ?_; rintro e w' ⟨rfl, rfl⟩)
  go_ret
  exact ⟨rfl, rfl⟩
set_option maxRecDepth 100000 in
theorem zdue (w : World) (p : Option Addr) (now : Int) (h : Zs w p) : Calls Try.prog 17 #[.pointer p, .int .i64 now] w fun e w' => e = .returned (.int .i64 0) ∧ Kp w w' [] := by
  have k1 := Kp.alloc w (.cells #[.int .i64 now] 2) []
  have cz := zero_yes _ p (h.keep k1)
  have HK := hid k1
  clear h k1
  go_enter Try.func17, Try.ntmps17
  go_wp2_with (go_at_call 30; refine cz.mono ?_; rintro e w' ⟨rfl, hw⟩; subst hw)
  go_ret
  exact ⟨rfl, HK.out⟩
set_option maxRecDepth 100000 in
theorem zhigh (w : World) (p : Option Addr) (h : Zs w p) : Calls Try.prog 21 #[.pointer p] w fun e w' => e = .returned (.bool false) ∧ ∃ k, w' = w.drewN k := by
  have CZ := hid (fun (W : World) (hk : Kp w W []) => zero_yes W p (h.keep hk))
  clear h
  go_enter Try.func21, Try.ntmps21
  go_wp2_with fail
  go_quiet ((go_at_call 30; exact Calls.quiet_of_same (CZ.out _ (Kp.drewN _ _ _))))
  go_wp2
  go_ret
  exact ⟨rfl, _, rfl⟩
set_option maxRecDepth 100000 in
theorem zsame (w : World) (p q : Option Addr) (h : Zs w p) (h2 : Zs w q) : Calls Try.prog 23 #[.pointer p, .pointer q] w fun e w' => e = .returned (.bool true) ∧ w' = w := by
  have cp := zero_yes w p h
  have cq := zero_yes w q h2
  clear h h2
  go_enter Try.func23, Try.ntmps23
  go_wp2_with (first | (go_at_call_of 30 (Value.pointer p); refine cp.mono ?_; rintro e w' ⟨rfl, rfl⟩) | (go_at_call_of 30 (Value.pointer q); refine cq.mono ?_; rintro e w' ⟨rfl, rfl⟩))
  go_ret
  exact ⟨rfl, rfl⟩
set_option maxRecDepth 100000 in
theorem zsame_no (w : World) (p : Option Addr) (b : Nat) (v : Value) (s : Sv) (h : Zs w p) (h2 : Sr w b v s) : Calls Try.prog 23 #[.pointer p, .pointer (some ⟨b, 0, none⟩)] w fun e w' => e = .returned (.bool false) ∧ w' = w := by
  have cp := zero_yes w p h
  have cq := zero_no w b _ _ _ _ _ _ _ h2.c h2.ok.m1
  clear h h2
  go_enter Try.func23, Try.ntmps23
  go_wp2_with (first | (go_at_call_of 30 (Value.pointer (some ⟨b, 0, none⟩)); refine cq.mono ?_; rintro e w' ⟨rfl, rfl⟩) | (go_at_call 30; refine cp.mono ?_; rintro e w' ⟨rfl, rfl⟩))
  go_ret
  exact ⟨rfl, rfl⟩
end Go.Proofs.Ytojcmnanapeooaa
