/- nothing; CondNil's walk. -/
import Derived.Test.YtpkjnjhbgjgfaaaKn
namespace Go.Proofs.Ytpkjnjhbgjgfaaa
open Go.RowKit Go.Shelf Go.Lib Go.Sort Go.Maps
attribute [local go_sem] Oper.semAt_some

theorem z_len {w : World} {p : Option Addr} (h : Zc w p) : Calls Try.prog 18 #[.pointer p] w fun e w' => e = .returned (.int .i64 0) ∧ Kp w w' [] := clen w p _ _ _ h.cv
theorem z_mutex {w : World} {p : Option Addr} (h : Zc w p) : Calls Try.prog 15 #[.pointer p] w fun e w' => e = .returned (.tuple #[.int .i64 0, .bool false]) ∧ Kp w w' [] := cmutex w p _ _ _ h.cv
theorem z_has {w : World} {p : Option Addr} (h : Zc w p) : Calls Try.prog 34 #[.pointer p, .int .i64 0] w fun e w' => e = .returned (.bool false) ∧ Kp w w' [] := chas w p _ _ _ 0 h.cv (by constructor <;> decide)
theorem z_list {w : World} {p : Option Addr} (h : Zc w p) : Calls Try.prog 14 #[.pointer p] w fun e w' => ∃ ao cap, e = .returned (.slice ao 0 cap) ∧ Kp w w' [] := by
  refine (clist w p _ _ _ h.cv).mono ?_
  rintro e w' ⟨x, rfl, hx, hk⟩
  rw [ord_nil] at hx
  obtain ⟨ao, cap, rfl⟩ := hx.slice
  exact ⟨ao, cap, rfl, hk⟩
theorem z_same {w : World} {p : Option Addr} (h : Zc w p) : Calls Try.prog 12 #[.pointer p, .pointer none] w fun e w' => e = .returned (.bool true) ∧ Kp w w' [] := by
  refine (csame w p none _ _ _ _ _ _ h.cv (Zc.cv (.inl rfl))).mono ?_
  rintro e w' ⟨rfl, hk⟩
  exact ⟨by rw [same_self], hk⟩
set_option maxRecDepth 100000 in
set_option maxHeartbeats 1000000 in
/-- nothing: of a condition that is not there. -/
theorem nothing_any (w : World) (p : Option Addr) (h : Zc w p) : Calls Try.prog 24 #[.pointer p] w fun e w' => e = .returned (.bool true) ∧ Kp w w' [] := by
  have H := hid (fun (z : World) (hk : Kp w z []) => h.keep hk)
  clear h
  go_enter Try.func24, Try.ntmps24
  go_wp2_with (go_at_call 17; refine (num_any _ _).mono ?_; rintro e wx ⟨rfl, hw⟩; obtain rfl := hw.symm)
  refine (csignal_no _ p (H.out _ (Kp.refl _ _))).mono ?_
  rintro e w1 ⟨rfl, hk⟩
  have K1 := hid (Kp.trans (Kp.refl _ _) hk)
  clear hk
  go_wp2_with (go_at_call 17; refine (num_any _ _).mono ?_; rintro e wx ⟨rfl, hw⟩; obtain rfl := hw.symm)
  refine (z_mutex (H.out _ K1.out)).mono ?_
  rintro e w2 ⟨rfl, hk⟩
  have K2 := hid (Kp.trans K1.out hk)
  clear hk
  go_wp2_with (go_at_call 17; refine (num_any _ _).mono ?_; rintro e wx ⟨rfl, hw⟩; obtain rfl := hw.symm)
  refine (cwait_no _ p 0 1 0 (H.out _ K2.out)).mono ?_
  rintro e w3 ⟨rfl, hk⟩
  have K3 := hid (Kp.trans K2.out hk)
  clear hk
  go_wp2_with (go_at_call 17; refine (num_any _ _).mono ?_; rintro e wx ⟨rfl, hw⟩; obtain rfl := hw.symm)
  refine (cbroad_no _ p (H.out _ K3.out)).mono ?_
  rintro e w4 ⟨rfl, hk⟩
  have K4 := hid (Kp.trans K3.out hk)
  clear hk
  go_wp2_with (go_at_call 17; refine (num_any _ _).mono ?_; rintro e wx ⟨rfl, hw⟩; obtain rfl := hw.symm)
  refine (cleave_no _ p 0 (H.out _ K4.out)).mono ?_
  rintro e w5 ⟨rfl, hk⟩
  have K5 := hid (Kp.trans K4.out hk)
  clear hk
  go_wp2_with (go_at_call 17; refine (num_any _ _).mono ?_; rintro e wx ⟨rfl, hw⟩; obtain rfl := hw.symm)
  refine (cchange_no _ p 0 1 (H.out _ K5.out)).mono ?_
  rintro e w6 ⟨rfl, hk⟩
  have K6 := hid (Kp.trans K5.out hk)
  clear hk
  go_wp2_with (go_at_call 17; refine (num_any _ _).mono ?_; rintro e wx ⟨rfl, hw⟩; obtain rfl := hw.symm)
  refine (z_has (H.out _ K6.out)).mono ?_
  rintro e w7 ⟨rfl, hk⟩
  have K7 := hid (Kp.trans K6.out hk)
  clear hk
  go_wp2_with (go_at_call 17; refine (num_any _ _).mono ?_; rintro e wx ⟨rfl, hw⟩; obtain rfl := hw.symm)
  refine (z_len (H.out _ K7.out)).mono ?_
  rintro e w8 ⟨rfl, hk⟩
  have K8 := hid (Kp.trans K7.out hk)
  clear hk
  go_wp2_with (go_at_call 17; refine (num_any _ _).mono ?_; rintro e wx ⟨rfl, hw⟩; obtain rfl := hw.symm)
  refine (z_list (H.out _ K8.out)).mono ?_
  rintro e w9 ⟨ao, cap, rfl, hk⟩
  have K9 := hid (Kp.trans K8.out hk)
  clear hk
  go_wp2_with (go_at_call 17; refine (num_any _ _).mono ?_; rintro e wx ⟨rfl, hw⟩; obtain rfl := hw.symm)
  refine (ccopy_no _ p (H.out _ K9.out)).mono ?_
  rintro e w10 ⟨rfl, hk⟩
  have K10 := hid (Kp.trans K9.out hk)
  clear hk
  go_wp2_with (go_at_call 17; refine (num_any _ _).mono ?_; rintro e wx ⟨rfl, hw⟩; obtain rfl := hw.symm)
  refine (z_same (H.out _ K10.out)).mono ?_
  rintro e w11 ⟨rfl, hk⟩
  have K11 := hid (Kp.trans K10.out hk)
  clear hk
  go_wp2
  go_ret
  exact ⟨rfl, K11.out⟩
/-- Two conditions that were made behind w0, apart. -/
def K2 (w0 W : World) (xb : Nat) (m1 : Int) (L1 : List Dl) (yb : Nat) (m2 : Int) (L2 : List Dl) : Prop :=
  ∃ R1 R2, Cm W xb R1 m1 L1 ∧ Cm W yb R2 m2 L2 ∧ (∀ k ∈ R1, k ∉ R2) ∧ (∀ k ∈ R1, w0.heap.size ≤ k) ∧ (∀ k ∈ R2, w0.heap.size ≤ k) ∧ Kp w0 W []
variable {w0 W : World} {xb yb : Nat} {m1 m2 : Int} {L1 L2 : List Dl}
theorem K2.kp (h : K2 w0 W xb m1 L1 yb m2 L2) : Kp w0 W [] := by
  obtain ⟨R1, R2, -, -, -, -, -, h⟩ := h
  exact h
theorem K2.swap (h : K2 w0 W xb m1 L1 yb m2 L2) : K2 w0 W yb m2 L2 xb m1 L1 := by
  obtain ⟨R1, R2, h1, h2, h3, h4, h5, h6⟩ := h
  exact ⟨R2, R1, h2, h1, fun k hk hm => h3 k hm hk, h5, h4, h6⟩
theorem K2.wait (h : K2 w0 W xb m1 L1 yb m2 L2) (t p u E m' : Int) (L' : List Dl) (e1 : cwE m1 L1 t p u = E) (e2 : cwM m1 L1 t p u = m') (e3 : cwL m1 L1 t p u = L') : Calls Try.prog 16 #[.pointer (some ⟨xb, 0, none⟩), .int .i64 t, .int .i64 p, .int .i64 u] W fun e w' => e = .returned (.int .i64 E) ∧ K2 w0 w' xb m' L' yb m2 L2 := by
  obtain ⟨R1, R2, h1, h2, h3, h4, h5, h6⟩ := h
  refine (cwait W xb R1 m1 L1 t p u h1).mono ?_
  rintro e w' ⟨rfl, R', s, nw, k⟩
  rw [e2, e3] at s
  refine ⟨by rw [e1], R', R2, s, h2.keep k (fun x hx hm => h3 x hm hx), fun x hx hm => ?_, fun x hx => ?_, h5, h6.past k (fun x hx hl => by have := h4 x hx; omega)⟩
  · rcases nw x hx with q | q
    · exact h3 x q hm
    · have := h2.lt x hm; omega
  · rcases nw x hx with q | q
    · exact h4 x q
    · have := h6.size; omega
theorem k2_new {w1 w2 : World} (h1 : Cc w0 w1 xb m1 L1 []) (h2 : Cc w1 w2 yb m2 L2 []) : K2 w0 w2 xb m1 L1 yb m2 L2 := by
  obtain ⟨R1, a1, a2, -, a4⟩ := h1
  obtain ⟨R2, b1, b2, -, b4⟩ := h2
  exact ⟨R1, R2, a1.same b4, b1, fun k hk hm => by have := a1.lt k hk; have := b2 k hm; omega, a2, fun k hk => by have := b2 k hk; have := a4.size; omega, a4.trans b4⟩
theorem K2.same (h : K2 w0 W xb m1 L1 yb m2 L2) : Calls Try.prog 12 #[.pointer (some ⟨xb, 0, none⟩), .pointer (some ⟨yb, 0, none⟩)] W fun e w' => e = .returned (.bool (decide (muT m1 L1 = muT m2 L2) && decide (L1 = L2))) ∧ Kp W w' [] := by
  obtain ⟨R1, R2, h1, h2, -⟩ := h
  refine (csame W _ _ R1 R2 m1 m2 L1 L2 h1.cv h2.cv).mono ?_
  rintro e w' ⟨rfl, hk⟩
  obtain ⟨wb, R0, rfl, -⟩ := h1
  obtain ⟨wb', R0', rfl, -⟩ := h2
  refine ⟨?_, hk⟩
  unfold sameC
  simp
set_option maxRecDepth 100000 in
set_option maxHeartbeats 4000000 in
theorem nil_walk (w : World) : Calls Try.prog 6 #[] w fun e w' => e = .returned (.bool true) ∧ Kp w w' [] := by
  go_enter Try.func6, Try.ntmps6
  go_wp2_with fail
  refine (kc_new w).mono ?_
  rintro e w1 ⟨cb, rfl, hl⟩
  have H := hid hl
  clear hl
  go_wp2_with fail
  refine (H.out.wait 15 31 (0) 0 0 [(15, 31)] (by decide +kernel) (by decide +kernel) (by decide +kernel)).mono ?_
  rintro e w2 ⟨rfl, hl⟩
  have H := hid hl
  clear hl
  go_wp2_with fail
  refine (H.out.wait 16 1 (0) 2 0 [(15, 31)] (by decide +kernel) (by decide +kernel) (by decide +kernel)).mono ?_
  rintro e w3 ⟨rfl, hl⟩
  have H := hid hl
  clear hl
  go_wp2_with fail
  refine (H.out.wait 0 32 (0) 2 0 [(15, 31)] (by decide +kernel) (by decide +kernel) (by decide +kernel)).mono ?_
  rintro e w4 ⟨rfl, hl⟩
  have H := hid hl
  clear hl
  go_wp2_with fail
  refine (H.out.wait 0 1 (1) 7 0 [(15, 31)] (by decide +kernel) (by decide +kernel) (by decide +kernel)).mono ?_
  rintro e w5 ⟨rfl, hl⟩
  have H := hid hl
  clear hl
  go_wp2_with fail
  refine (H.out.leave 0 6 [(15, 31)] (by decide +kernel) (by decide +kernel)).mono ?_
  rintro e w6 ⟨rfl, hl⟩
  have H := hid hl
  clear hl
  go_wp2_with fail
  refine (H.out.change 15 0 2 [(15, 31)] (by decide +kernel) (by decide +kernel)).mono ?_
  rintro e w7 ⟨rfl, hl⟩
  have H := hid hl
  clear hl
  go_wp2_with fail
  refine (kc_new w7).mono ?_
  rintro e w8 ⟨xb, rfl, hx⟩
  have X := hid hx
  clear hx
  go_wp2_with fail
  refine (kc_new w8).mono ?_
  rintro e w9 ⟨yb, rfl, hy⟩
  have XY := hid (k2_new X.out hy)
  clear hy X
  go_wp2_with fail
  refine (XY.out.wait 1 5 3 0 3 [(1, 5)] (by decide +kernel) (by decide +kernel) (by decide +kernel)).mono ?_
  rintro e w10 ⟨rfl, hl⟩
  have YX := hid hl.swap
  clear hl XY
  go_wp2_with fail
  refine (YX.out.wait 1 5 4 0 4 [(1, 5)] (by decide +kernel) (by decide +kernel) (by decide +kernel)).mono ?_
  rintro e w11 ⟨rfl, hl⟩
  have XY := hid hl.swap
  clear hl YX
  go_wp2_with fail
  refine (XY.out.same).mono ?_
  rintro e w12 ⟨rfl, hk⟩
  have H := hid ((H.out.same XY.out.kp).same hk)
  have HK0 := hid hk
  clear hk XY
  rw [show (decide (muT 3 [(1, 5)] = muT 4 [(1, 5)]) && decide (([(1, 5)] : List Dl) = [(1, 5)])) = false from by decide +kernel]
  go_wp2_with (go_at_call 17; refine (num_any _ _).mono ?_; rintro e wx ⟨rfl, hw⟩; obtain rfl := hw.symm)
  refine (H.out.len).mono ?_
  rintro e w13 ⟨rfl, hk⟩
  have H := hid (H.out.same hk)
  clear hk
  rw [show (([(15, 31)] : List Dl).length : Int) = 1 from rfl]
  go_wp2_with fail
  refine (nothing_any _ none (.inl rfl)).mono ?_
  rintro e w14 ⟨rfl, hk⟩
  have H := hid (H.out.same hk)
  clear hk
  go_wp2_with fail
  have HZ := hid (show Zc (w14.alloc (.cells #[.pointer none, .int .i64 0] 53)) (some ⟨w14.heap.size, 0, none⟩) from .inr ⟨_, rfl, heap_alloc_new _ _⟩)
  refine (nothing_any _ _ HZ.out).mono ?_
  rintro e w15 ⟨rfl, hk⟩
  have H := hid (H.out.same ((Kp.alloc w14 _ []).trans hk))
  clear hk HZ
  obtain ⟨x, R, hcv⟩ := H.out.cv
  have HS := hid (csame _ _ none _ _ _ _ _ _ hcv (Zc.cv (.inl rfl)))
  rw [show sameC (x :: R) [] 0 0 [(15, 31)] [] = false from by unfold sameC; simp] at HS
  clear hcv
  go_wp2_with fail
  refine HS.out.mono ?_
  rintro e w16 ⟨rfl, hk⟩
  have H := hid (H.out.same hk)
  clear hk HS
  go_wp2_with fail
  refine (known_any _).mono ?_
  rintro e w17 ⟨rfl, hk⟩
  have K9 := hid (H.out.kp.trans hk)
  clear hk
  go_wp2
  go_ret
  exact ⟨rfl, K9.out⟩
end Go.Proofs.Ytpkjnjhbgjgfaaa
