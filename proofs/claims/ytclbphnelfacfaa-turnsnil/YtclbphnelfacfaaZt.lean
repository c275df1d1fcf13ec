/- No turns: nil, or zero ones. -/
import Derived.Test.YtclbphnelfacfaaKn
namespace Go.Proofs.Ytclbphnelfacfaa
open Go.RowKit Go.Shelf

def Zt (w : World) (p : Option Addr) : Prop := p = none ∨ ∃ xb, p = some ⟨xb, 0, none⟩ ∧ w.cell? ⟨xb, 0, none⟩ = some (.pointer none)
theorem Zt.keep {w w' : World} {p : Option Addr} (h : Zt w p) (hk : Kp w w' []) : Zt w' p := by
  rcases h with rfl | ⟨tb, rfl, h⟩
  · exact .inl rfl
  · exact .inr ⟨tb, rfl, hk.cell h (by simp)⟩
theorem zr0 (w : World) : Zr w none := .inl rfl
set_option maxRecDepth 100000 in
theorem ztseq (w : World) (p : Option Addr) (h : Zt w p) : Calls Try.prog 42 #[.pointer p] w fun e w' => e = .returned (.pointer none) ∧ w' = w := by
  rcases h with rfl | ⟨tb, rfl, h⟩
  · go_enter Try.func42, Try.ntmps42
    go_wp2
    go_ret
    exact ⟨rfl, rfl⟩
  · go_enter Try.func42, Try.ntmps42
    go_wp2
    go_ret
    exact ⟨rfl, rfl⟩
set_option maxRecDepth 100000 in
theorem ztzero (w : World) (p : Option Addr) (h : Zt w p) : Calls Try.prog 47 #[.pointer p] w fun e w' => e = .returned (.bool true) ∧ w' = w := by
  have cs := ztseq w p h
  clear h
  go_enter Try.func47, Try.ntmps47
  go_wp2_with (go_at_call 42; refine cs.mono ?_; rintro e w' ⟨rfl, rfl⟩)
  go_ret
  exact ⟨rfl, rfl⟩
set_option maxRecDepth 100000 in
theorem ztruns (w : World) (p : Option Addr) (h : Zt w p) : Calls Try.prog 18 #[.pointer p] w fun e w' => e = .returned (.tuple #[.int .i64 0, .bool false]) ∧ w' = w := by
  have cs := ztseq w p h
  have cf := zfirst w none (zr0 w)
  clear h
  go_enter Try.func18, Try.ntmps18
  go_wp2_with (go_at_call 42; refine cs.mono ?_; rintro e w' ⟨rfl, rfl⟩)
  refine cf.mono ?_
  rintro e w1 ⟨rfl, rfl⟩
  go_wp2
  go_ret2
  exact ⟨rfl, rfl⟩
set_option maxRecDepth 100000 in
theorem ztprio (w : World) (p : Option Addr) (t : Int) (h : Zt w p) : Calls Try.prog 25 #[.pointer p, .int .i64 t] w fun e w' => e = .returned (.tuple #[.int .i64 0, .bool false]) ∧ w' = w := by
  have cs := ztseq w p h
  have cf := zprio w none t (zr0 w)
  clear h
  go_enter Try.func25, Try.ntmps25
  go_wp2_with (go_at_call 42; refine cs.mono ?_; rintro e w' ⟨rfl, rfl⟩)
  refine cf.mono ?_
  rintro e w1 ⟨rfl, rfl⟩
  go_wp2
  go_ret2
  exact ⟨rfl, rfl⟩
set_option maxRecDepth 100000 in
theorem ztof (w : World) (p : Option Addr) (h : Zt w p) : Calls Try.prog 17 #[.pointer p, .int .i64 1] w fun e w' => e = .returned (.slice none 0 0) ∧ Kp w w' [] := by
  have cs := ztseq w p h
  have cf := zlist w none (zr0 w)
  clear h
  go_enter Try.func17, Try.ntmps17
  go_wp2_with (go_at_call 42; refine cs.mono ?_; rintro e w' ⟨rfl, rfl⟩)
  refine cf.mono ?_
  rintro e w1 ⟨rfl, hk⟩
  have HK := hid hk
  clear hk
  go_wp2
  go_ret
  exact ⟨rfl, HK.out⟩
set_option maxRecDepth 100000 in
theorem ztlen (w : World) (p : Option Addr) (h : Zt w p) : Calls Try.prog 32 #[.pointer p] w fun e w' => e = .returned (.int .i64 0) ∧ Kp w w' [] := by
  have cs := ztseq w p h
  have cf := zlen w none (zr0 w)
  clear h
  go_enter Try.func32, Try.ntmps32
  go_wp2_with (go_at_call 42; refine cs.mono ?_; rintro e w' ⟨rfl, rfl⟩)
  refine cf.mono ?_
  rintro e w1 ⟨rfl, hk⟩
  have HK := hid hk
  clear hk
  go_wp2
  go_ret
  exact ⟨rfl, HK.out⟩
set_option maxRecDepth 100000 in
theorem ztleft (w : World) (p : Option Addr) (t : Int) (h : Zt w p) : Calls Try.prog 26 #[.pointer p, .int .i64 t] w fun e w' => e = .returned (.tuple #[.int .i64 0, .bool false]) ∧ w' = w := by
  have c0 := ztprio w p t h
  clear h
  go_enter Try.func26, Try.ntmps26
  go_wp2_with (first | (go_at_call 25; refine c0.mono ?_; rintro e w' ⟨rfl, rfl⟩))
  go_ret2
  exact ⟨rfl, rfl⟩
set_option maxRecDepth 100000 in
theorem zttick (w : World) (p : Option Addr) (h : Zt w p) : Calls Try.prog 16 #[.pointer p] w fun e w' => e = .returned (.tuple #[.int .i64 0, .bool false]) ∧ w' = w := by
  have c0 := ztruns w p h
  clear h
  go_enter Try.func16, Try.ntmps16
  go_wp2_with (first | (go_at_call 18; refine c0.mono ?_; rintro e w' ⟨rfl, rfl⟩))
  go_ret2
  exact ⟨rfl, rfl⟩
set_option maxRecDepth 100000 in
theorem ztcopy (w : World) (p : Option Addr) (h : Zt w p) : Calls Try.prog 23 #[.pointer p] w fun e w' => e = .returned (.pointer none) ∧ w' = w := by
  have c0 := ztzero w p h
  clear h
  go_enter Try.func23, Try.ntmps23
  go_wp2_with (first | (go_at_call 47; refine c0.mono ?_; rintro e w' ⟨rfl, rfl⟩))
  go_ret
  exact ⟨rfl, rfl⟩
set_option maxRecDepth 100000 in
theorem ztfrom (w : World) (p : Option Addr) (t : Int) (f : Value) (h : Zt w p) : Calls Try.prog 51 #[.pointer p, .int .i64 t, f] w fun e w' => e = .returned (.int .i64 1) ∧ w' = w := by
  have c0 := ztprio w p t h
  have c1 := ztzero w p h
  clear h
  go_enter Try.func51, Try.ntmps51
  go_wp2_with (first | (go_at_call 25; refine c0.mono ?_; rintro e w' ⟨rfl, rfl⟩) | (go_at_call 47; refine c1.mono ?_; rintro e w' ⟨rfl, rfl⟩))
  go_ret
  exact ⟨rfl, rfl⟩
set_option maxRecDepth 100000 in
theorem ztto (w : World) (p : Option Addr) (t pr : Int) (f : Value) (h : Zt w p) : Calls Try.prog 56 #[.pointer p, .int .i64 t, .int .i64 pr, f] w fun e w' => e = .returned (.int .i64 1) ∧ w' = w := by
  have c0 := ztzero w p h
  have c1 := ztfrom w p t f h
  clear h
  go_enter Try.func56, Try.ntmps56
  go_wp2_with (first | (go_at_call 47; refine c0.mono ?_; rintro e w' ⟨rfl, rfl⟩) | (go_at_call 51; refine c1.mono ?_; rintro e w' ⟨rfl, rfl⟩))
  go_ret
  exact ⟨rfl, rfl⟩
set_option maxRecDepth 100000 in
theorem ztadd (w : World) (p : Option Addr) (t pr : Int) (r : Bool) (h : Zt w p) : Calls Try.prog 14 #[.pointer p, .int .i64 t, .int .i64 pr, .bool r] w fun e w' => e = .returned (.int .i64 1) ∧ Kp w w' [] := by
  have cs := ztseq w p h
  have cf := ztail w none pr t (zr0 w)
  clear h
  go_enter Try.func14, Try.ntmps14
  go_wp2_with (go_at_call 42; refine cs.mono ?_; rintro e w' ⟨rfl, rfl⟩)
  refine cf.mono ?_
  rintro e w1 ⟨rfl, hk⟩
  have HK := hid hk
  clear hk
  go_wp2
  go_ret
  exact ⟨rfl, HK.out⟩
set_option maxRecDepth 100000 in
theorem ztleave (w : World) (p : Option Addr) (t : Int) (h : Zt w p) : Calls Try.prog 27 #[.pointer p, .int .i64 t] w fun e w' => e = .returned (.int .i64 1) ∧ Kp w w' [] := by
  have HK := hid ((Kp.alloc w (.cells #[.pointer p] 23) []).trans (Kp.alloc _ (.cells #[.int .i64 t] 3) []))
  have cf := fun f => ztfrom _ p t f (h.keep HK.out)
  clear h
  go_enter Try.func27, Try.ntmps27
  go_wp2_with (go_at_call 51; refine (cf _).mono ?_; rintro e w' ⟨rfl, rfl⟩)
  go_ret
  exact ⟨rfl, HK.out⟩
set_option maxRecDepth 100000 in
theorem ztyield (w : World) (p : Option Addr) (t : Int) (h : Zt w p) : Calls Try.prog 28 #[.pointer p, .int .i64 t] w fun e w' => e = .returned (.int .i64 1) ∧ Kp w w' [] := by
  have HK := hid ((Kp.alloc w (.cells #[.pointer p] 23) []).trans (Kp.alloc _ (.cells #[.int .i64 t] 3) []))
  have cf := fun f => ztfrom _ p t f (h.keep HK.out)
  clear h
  go_enter Try.func28, Try.ntmps28
  go_wp2_with (go_at_call 51; refine (cf _).mono ?_; rintro e w' ⟨rfl, rfl⟩)
  go_ret
  exact ⟨rfl, HK.out⟩
set_option maxRecDepth 100000 in
theorem ztput (w : World) (p : Option Addr) (t pr : Int) (r : Bool) (h : Zt w p) : Calls Try.prog 29 #[.pointer p, .int .i64 t, .int .i64 pr, .bool r] w fun e w' => e = .returned (.int .i64 1) ∧ Kp w w' [] := by
  have HK := hid ((((Kp.alloc w (.cells #[.pointer p] 23) []).trans (Kp.alloc _ (.cells #[.int .i64 t] 3) [])).trans (Kp.alloc _ (.cells #[.int .i64 pr] 3) [])).trans (Kp.alloc _ (.cells #[.bool r] 4) []))
  have cf := fun f => ztto _ p t pr f (h.keep HK.out)
  clear h
  go_enter Try.func29, Try.ntmps29
  go_wp2_with (go_at_call 56; refine (cf _).mono ?_; rintro e w' ⟨rfl, rfl⟩)
  go_ret
  exact ⟨rfl, HK.out⟩
set_option maxRecDepth 100000 in
theorem ztmove (w : World) (p : Option Addr) (t pr : Int) (h : Zt w p) : Calls Try.prog 30 #[.pointer p, .int .i64 t, .int .i64 pr] w fun e w' => e = .returned (.int .i64 1) ∧ Kp w w' [] := by
  have HK := hid (((Kp.alloc w (.cells #[.pointer p] 23) []).trans (Kp.alloc _ (.cells #[.int .i64 t] 3) [])).trans (Kp.alloc _ (.cells #[.int .i64 pr] 3) []))
  have cf := fun f => ztto _ p t pr f (h.keep HK.out)
  clear h
  go_enter Try.func30, Try.ntmps30
  go_wp2_with (go_at_call 56; refine (cf _).mono ?_; rintro e w' ⟨rfl, rfl⟩)
  go_ret
  exact ⟨rfl, HK.out⟩
set_option maxRecDepth 100000 in
theorem ztlift (w : World) (p : Option Addr) (t pr : Int) (h : Zt w p) : Calls Try.prog 31 #[.pointer p, .int .i64 t, .int .i64 pr] w fun e w' => e = .returned (.int .i64 1) ∧ Kp w w' [] := by
  have HK := hid (((Kp.alloc w (.cells #[.pointer p] 23) []).trans (Kp.alloc _ (.cells #[.int .i64 t] 3) [])).trans (Kp.alloc _ (.cells #[.int .i64 pr] 3) []))
  have cf := fun f => ztto _ p t pr f (h.keep HK.out)
  clear h
  go_enter Try.func31, Try.ntmps31
  go_wp2_with (go_at_call 56; refine (cf _).mono ?_; rintro e w' ⟨rfl, rfl⟩)
  go_ret
  exact ⟨rfl, HK.out⟩
set_option maxRecDepth 100000 in
theorem ztsame (w : World) (p p2 : Option Addr) (h : Zt w p) (h2 : Zt w p2) : Calls Try.prog 24 #[.pointer p, .pointer p2] w fun e w' => e = .returned (.bool true) ∧ w' = w := by
  have c1 := ztzero w p h
  have c2 := ztzero w p2 h2
  clear h h2
  go_enter Try.func24, Try.ntmps24
  go_wp2_with fail
  refine c1.mono ?_
  rintro e w1 ⟨rfl, rfl⟩
  go_wp2_with fail
  refine c1.mono ?_
  rintro e w1 ⟨rfl, rfl⟩
  go_wp2_with fail
  refine c2.mono ?_
  rintro e w1 ⟨rfl, rfl⟩
  go_wp2
  go_ret
  exact ⟨rfl, rfl⟩
set_option maxRecDepth 100000 in
theorem ztother (w : World) (p : Option Addr) (xb rb q : Nat) (S : Sh) (h : Zt w p) (h2 : Tc w xb (some ⟨rb, 0, none⟩) q S) : Calls Try.prog 24 #[.pointer p, .pointer (some ⟨xb, 0, none⟩)] w fun e w' => e = .returned (.bool false) ∧ w' = w := by
  have c1 := ztzero w p h
  have c2 := tzero_ok w xb rb q S h2
  clear h h2
  go_enter Try.func24, Try.ntmps24
  go_wp2_with fail
  refine c1.mono ?_
  rintro e w1 ⟨rfl, rfl⟩
  go_wp2_with fail
  refine c1.mono ?_
  rintro e w1 ⟨rfl, rfl⟩
  go_wp2_with fail
  refine c2.mono ?_
  rintro e w1 ⟨rfl, rfl⟩
  go_wp2
  go_ret
  exact ⟨rfl, rfl⟩
end Go.Proofs.Ytclbphnelfacfaa
