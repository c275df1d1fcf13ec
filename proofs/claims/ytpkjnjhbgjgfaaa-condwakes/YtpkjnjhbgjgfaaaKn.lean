/- A condition that was made here, with numbers beside; known. -/
import Derived.Test.YtpkjnjhbgjgfaaaPa
namespace Go.Proofs.Ytpkjnjhbgjgfaaa
open Go.RowKit Go.Shelf Go.Lib Go.Sort Go.Maps
attribute [local go_sem] Oper.semAt_some

/-- A condition that was made behind w0, and lists of numbers beside. -/
def Cc (w0 W : World) (cb : Nat) (m : Int) (L : List Dl) (ks : List (Value × List Int)) : Prop :=
  ∃ R, Cm W cb R m L ∧ (∀ k ∈ R, w0.heap.size ≤ k) ∧ (∀ x ∈ ks, Ns W w0.heap.size x.1 x.2 ∧ ∀ g, x.1.ownBlock = some g → g ∉ R) ∧ Kp w0 W []
variable {w0 W : World} {cb : Nat} {m : Int} {L : List Dl} {ks : List (Value × List Int)}
theorem ns_far {W : World} {base : Nat} {v : Value} {l : List Int} (h : Ns W base v l) {g : Nat} (hg : v.ownBlock = some g) : base ≤ g ∧ g < W.heap.size := ⟨(owns_block h hg).1, lt_of_block (owns_block h hg).2.choose_spec⟩
theorem Cc.kp (h : Cc w0 W cb m L ks) : Kp w0 W [] := by
  obtain ⟨R, -, -, -, h⟩ := h
  exact h
theorem Cc.ok (h : Cc w0 W cb m L ks) : okL L := by
  obtain ⟨R, h, -⟩ := h
  exact h.ok
theorem Cc.same {w' : World} (h : Cc w0 W cb m L ks) (hk : Kp W w' []) : Cc w0 w' cb m L ks := by
  obtain ⟨R, h1, h2, h3, h4⟩ := h
  exact ⟨R, h1.same hk, h2, fun x hx => ⟨(h3 x hx).1.keep hk, (h3 x hx).2⟩, h4.trans hk⟩
theorem Cc.ns (h : Cc w0 W cb m L ks) {x : Value × List Int} (hx : x ∈ ks) : Ns W w0.heap.size x.1 x.2 := by
  obtain ⟨R, h1, h2, h3, h4⟩ := h
  exact (h3 x hx).1
theorem Cc.drop (h : Cc w0 W cb m L ks) : Cc w0 W cb m L [] := by
  obtain ⟨R, h1, h2, h3, h4⟩ := h
  exact ⟨R, h1, h2, by simp, h4⟩
theorem Cc.cv (h : Cc w0 W cb m L ks) : ∃ x R, Cv W (some ⟨cb, 0, none⟩) (x :: R) m L := by
  obtain ⟨R, h1, -⟩ := h
  obtain ⟨wb, R0, rfl, -⟩ := id h1
  exact ⟨_, _, h1.cv⟩
theorem Cc.to {w' : World} {R : List Nat} {m' : Int} {L' : List Dl} (h2 : ∀ k ∈ R, w0.heap.size ≤ k) (h3 : ∀ x ∈ ks, Ns W w0.heap.size x.1 x.2 ∧ ∀ g, x.1.ownBlock = some g → g ∉ R) (h4 : Kp w0 W []) (h : To W w' cb R m' L') : Cc w0 w' cb m' L' ks := by
  obtain ⟨R', s, nw, k⟩ := h
  refine ⟨R', s, fun x hx => ?_, fun x hx => ⟨(h3 x hx).1.kp k (fun g hg => (h3 x hx).2 g hg), fun g hg hm => ?_⟩, h4.past k (fun x hx hl => by have := h2 x hx; omega)⟩
  · rcases nw x hx with q | q
    · exact h2 x q
    · have := h4.size; omega
  · rcases nw g hm with q | q
    · exact (h3 x hx).2 g hg q
    · have := (ns_far (h3 x hx).1 hg).2; omega
theorem Cc.tl {w' : World} {R : List Nat} {m' : Int} {L' : List Dl} {x : Value} {l : List Int} (hR : ∀ k ∈ R, k < W.heap.size) (h2 : ∀ k ∈ R, w0.heap.size ≤ k) (h3 : ∀ x ∈ ks, Ns W w0.heap.size x.1 x.2 ∧ ∀ g, x.1.ownBlock = some g → g ∉ R) (h4 : Kp w0 W []) (h : Tl W w' cb R m' L' x l) : Cc w0 w' cb m' L' ((x, l) :: ks) := by
  obtain ⟨hn, R', s, nw, k⟩ := h
  refine ⟨R', s, fun x hx => h2 x (nw x hx), fun y hy => ?_, h4.past k (fun x hx hl => by have := h2 x hx; omega)⟩
  rcases List.mem_cons.1 hy with rfl | hy
  · refine ⟨hn.low h4.size, fun g hg hm => ?_⟩
    have := (ns_far hn hg).1
    have := hR g (nw g hm)
    omega
  · exact ⟨(h3 y hy).1.kp k (fun g hg => (h3 y hy).2 g hg), fun g hg hm => (h3 y hy).2 g hg (nw g hm)⟩
theorem kc_new (w : World) : Calls Try.prog 7 #[] w fun e w' => ∃ cb, e = .returned (.pointer (some ⟨cb, 0, none⟩)) ∧ Cc w w' cb 0 [] [] := by
  refine (cnew w).mono ?_
  rintro e w' ⟨cb, R, rfl, h1, h2, h3⟩
  exact ⟨cb, rfl, R, h1, h2, by simp, h3⟩
theorem Cc.wait (h : Cc w0 W cb m L ks) (t p u E m' : Int) (L' : List Dl) (e1 : cwE m L t p u = E) (e2 : cwM m L t p u = m') (e3 : cwL m L t p u = L') : Calls Try.prog 16 #[.pointer (some ⟨cb, 0, none⟩), .int .i64 t, .int .i64 p, .int .i64 u] W fun e w' => e = .returned (.int .i64 E) ∧ Cc w0 w' cb m' L' ks := by
  obtain ⟨R, h1, h2, h3, h4⟩ := h
  refine (cwait W cb R m L t p u h1).mono ?_
  rintro e w' ⟨rfl, hT⟩
  rw [e2, e3] at hT
  exact ⟨by rw [e1], Cc.to h2 h3 h4 hT⟩
theorem Cc.signal (h : Cc w0 W cb m L ks) (t : Int) (b : Bool) (L' : List Dl) (e1 : fstT L = t) (e2 : fstB L = b) (e3 : takeL L = L') : Calls Try.prog 20 #[.pointer (some ⟨cb, 0, none⟩)] W fun e w' => e = .returned (.tuple #[.int .i64 t, .bool b]) ∧ Cc w0 w' cb m L' ks := by
  obtain ⟨R, h1, h2, h3, h4⟩ := h
  refine (csignal W cb R m L h1).mono ?_
  rintro e w' ⟨rfl, hT⟩
  rw [e3] at hT
  exact ⟨by rw [e1, e2], Cc.to h2 h3 h4 hT⟩
theorem Cc.broad (h : Cc w0 W cb m L ks) (l : List Int) (e1 : (ordL L).map (·.1) = l) : Calls Try.prog 21 #[.pointer (some ⟨cb, 0, none⟩)] W fun e w' => ∃ ao cap, e = .returned (.slice ao l.length cap) ∧ Cc w0 w' cb m [] ((.slice ao l.length cap, l) :: ks) := by
  obtain ⟨R, h1, h2, h3, h4⟩ := h
  refine (cbroad W cb R m L h1).mono ?_
  rintro e w' ⟨x, rfl, hT⟩
  rw [e1] at hT
  obtain ⟨ao, cap, rfl⟩ := hT.1.slice
  exact ⟨ao, cap, rfl, Cc.tl h1.lt h2 h3 h4 hT⟩
theorem Cc.list (h : Cc w0 W cb m L ks) (l : List Int) (e1 : (ordL L).map (·.1) = l) : Calls Try.prog 14 #[.pointer (some ⟨cb, 0, none⟩)] W fun e w' => ∃ ao cap, e = .returned (.slice ao l.length cap) ∧ Cc w0 w' cb m L ((.slice ao l.length cap, l) :: ks) := by
  obtain ⟨R, h1, h2, h3, h4⟩ := h
  refine (clist W _ R m L h1.cv).mono ?_
  rintro e w' ⟨x, rfl, hn, hk⟩
  rw [e1] at hn
  obtain ⟨ao, cap, rfl⟩ := hn.slice
  exact ⟨ao, cap, rfl, Cc.tl h1.lt h2 h3 h4 ⟨hn, R, h1.same hk, fun _ h => h, hk.nil⟩⟩
theorem Cc.leave (h : Cc w0 W cb m L ks) (t E : Int) (L' : List Dl) (e1 : lvE L t = E) (e2 : lvL L t = L') : Calls Try.prog 22 #[.pointer (some ⟨cb, 0, none⟩), .int .i64 t] W fun e w' => e = .returned (.int .i64 E) ∧ Cc w0 w' cb m L' ks := by
  obtain ⟨R, h1, h2, h3, h4⟩ := h
  refine (cleave W cb R m L t h1).mono ?_
  rintro e w' ⟨rfl, hT⟩
  rw [e2] at hT
  exact ⟨by rw [e1], Cc.to h2 h3 h4 hT⟩
theorem Cc.change (h : Cc w0 W cb m L ks) (t p E : Int) (L' : List Dl) (e1 : chgE L t p = E) (e2 : chgL L t p = L') : Calls Try.prog 23 #[.pointer (some ⟨cb, 0, none⟩), .int .i64 t, .int .i64 p] W fun e w' => e = .returned (.int .i64 E) ∧ Cc w0 w' cb m L' ks := by
  obtain ⟨R, h1, h2, h3, h4⟩ := h
  refine (cchange W cb R m L t p h1).mono ?_
  rintro e w' ⟨rfl, hT⟩
  rw [e2] at hT
  exact ⟨by rw [e1], Cc.to h2 h3 h4 hT⟩
theorem Cc.mutex (h : Cc w0 W cb m L ks) (u : Int) (b : Bool) (e1 : muT m L = u) (e2 : muB L = b) : Calls Try.prog 15 #[.pointer (some ⟨cb, 0, none⟩)] W fun e w' => e = .returned (.tuple #[.int .i64 u, .bool b]) ∧ Kp W w' [] := by
  obtain ⟨x, R, h1⟩ := h.cv
  refine (cmutex W _ _ m L h1).mono ?_
  rintro e w' ⟨rfl, hk⟩
  exact ⟨by rw [e1, e2], hk⟩
theorem Cc.len (h : Cc w0 W cb m L ks) : Calls Try.prog 18 #[.pointer (some ⟨cb, 0, none⟩)] W fun e w' => e = .returned (.int .i64 L.length) ∧ Kp W w' [] := by
  obtain ⟨x, R, h1⟩ := h.cv
  exact clen W _ _ m L h1
theorem ns_l2 (w : World) (a b : Int) : Ns (w.alloc (.cells #[.int .i64 a, .int .i64 b] 3)) w.heap.size (.slice (some ⟨w.heap.size, 0, none⟩) 2 2) [a, b] :=
  ⟨rfl, .inr ⟨w.heap.size, 2, _, rfl, Nat.le_refl _, heap_alloc_new w _, Nat.le_refl _, by unfold maxLen; omega, rfl, rfl⟩⟩
set_option maxRecDepth 100000 in
set_option maxHeartbeats 4000000 in
theorem known_any (w : World) : Calls Try.prog 11 #[] w fun e w' => e = .returned (.bool true) ∧ Kp w w' [] := by
  go_enter Try.func11, Try.ntmps11
  go_wp2_with fail
  refine (kc_new w).mono ?_
  rintro e w1 ⟨cb, rfl, hl⟩
  have H := hid hl
  clear hl
  go_wp2_with fail
  refine (H.out.wait 1 5 (3) 0 3 [(1, 5)] (by decide +kernel) (by decide +kernel) (by decide +kernel)).mono ?_
  rintro e w2 ⟨rfl, hl⟩
  have H := hid hl
  clear hl
  go_wp2_with fail
  refine (H.out.wait 2 9 (3) 0 3 [(1, 5), (2, 9)] (by decide +kernel) (by decide +kernel) (by decide +kernel)).mono ?_
  rintro e w3 ⟨rfl, hl⟩
  have H := hid hl
  clear hl
  go_wp2_with fail
  refine (H.out.wait 3 1 (4) 7 3 [(1, 5), (2, 9)] (by decide +kernel) (by decide +kernel) (by decide +kernel)).mono ?_
  rintro e w4 ⟨rfl, hl⟩
  have H := hid hl
  clear hl
  go_wp2_with fail
  refine (H.out.wait 1 5 (3) 7 3 [(1, 5), (2, 9)] (by decide +kernel) (by decide +kernel) (by decide +kernel)).mono ?_
  rintro e w5 ⟨rfl, hl⟩
  have H := hid hl
  clear hl
  go_wp2_with fail
  refine (H.out.wait 4 1 (-1) 2 3 [(1, 5), (2, 9)] (by decide +kernel) (by decide +kernel) (by decide +kernel)).mono ?_
  rintro e w6 ⟨rfl, hl⟩
  have H := hid hl
  clear hl
  go_wp2_with fail
  refine (H.out.mutex 3 true (by decide +kernel) (by decide +kernel)).mono ?_
  rintro e w7 ⟨rfl, hk⟩
  have H := hid (H.out.same hk)
  clear hk
  go_wp2_with fail
  have q1 := take_eq [(1, 5), (2, 9)] [(2, 9), (1, 5)] [(1, 5)] (by decide +kernel) 2 (by decide +kernel) (by decide +kernel) (by decide +kernel)
  refine (H.out.signal 2 true [(1, 5)] q1.1 q1.2.1 q1.2.2).mono ?_
  rintro e w8 ⟨rfl, hl⟩
  have H := hid hl
  clear hl
  go_wp2_with fail
  refine (H.out.wait 3 7 (3) 0 3 [(1, 5), (3, 7)] (by decide +kernel) (by decide +kernel) (by decide +kernel)).mono ?_
  rintro e w9 ⟨rfl, hl⟩
  have H := hid hl
  clear hl
  go_wp2_with fail
  refine (H.out.broad [3, 1] (keys_eq _ _ (by decide +kernel))).mono ?_
  rintro e w10 ⟨lo, lc, rfl, hl⟩
  have H := hid hl
  clear hl
  go_wp2_with fail
  refine (H.out.mutex 0 false (by decide +kernel) (by decide +kernel)).mono ?_
  rintro e w11 ⟨rfl, hk⟩
  have H := hid (H.out.same hk)
  clear hk
  go_wp2_with fail
  refine (H.out.signal 0 false [] fst_nil.1 fst_nil.2 take_nil).mono ?_
  rintro e w12 ⟨rfl, hl⟩
  have H := hid hl
  clear hl
  have NL := hid (fun (z : World) (hk : Kp w12 z []) => (H.out.ns (x := (.slice lo 2 lc, [3, 1])) (by simp)).keep hk)
  go_wp2_with (go_at_call 17; refine (num_any _ _).mono ?_; rintro e wx ⟨rfl, hw⟩; obtain rfl := hw.symm)
  refine (ints_any _ _ _ _ _ [3, 1] [3, 1] (NL.out _ (Kp.alloc _ _ _)) (ns_l2 w12 3 1) (by decide)).mono ?_
  rintro e z1 ⟨rfl, hk⟩
  have K1 := hid ((Kp.alloc w12 (.cells #[.int .i64 3, .int .i64 1] 3) []).trans hk)
  clear hk
  rw [show decide (([3, 1] : List Int) = [3, 1]) = true from by decide]
  go_wp2_with (go_at_call 17; refine (num_any _ _).mono ?_; rintro e wx ⟨rfl, hw⟩; obtain rfl := hw.symm)
  go_ret
  exact ⟨rfl, H.out.kp.trans K1.out⟩
end Go.Proofs.Ytpkjnjhbgjgfaaa
