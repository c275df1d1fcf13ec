/- known: the chapter's rows. -/
import Derived.Test.YtoaceeddcnijoaaInts
namespace Go.Proofs.Ytoaceeddcnijoaa
open Go.RowKit Go.Shelf Go.Lib Go.Sort

set_option maxRecDepth 100000 in
set_option maxHeartbeats 2000000 in
theorem known_any (w : World) : Calls Try.prog 7 #[] w fun e w' => e = .returned (.bool true) ∧ Kp w w' [] := by
  go_enter Try.func7, Try.ntmps7
  go_wp2_with fail
  refine (wnew w).mono ?_
  rintro e w1 ⟨rfl, hw, hk⟩
  obtain ⟨F0, hF⟩ : ∃ F : Nat → Value, (fun _ => .slice none 0 0) = F := ⟨_, rfl⟩
  have NB0 := hid (show ∀ k ∈ rows F0 w.heap.size, w.heap.size ≤ k by rw [← hF, rows_new]; simp)
  rw [hF] at hw
  have W0 := hid hw
  have K0 := hid hk
  obtain ⟨b, hb⟩ : ∃ b, w.heap.size = b := ⟨_, rfl⟩
  rw [hb] at W0 ⊢
  have NB : Hid (∀ k ∈ rows F0 b, w.heap.size ≤ k) := hid (by rw [← hb]; exact NB0.out)
  clear hw hk hF NB0
  have NB0 := NB
  clear NB hb
  go_wp2_with fail
  refine (wset _ b F0 [] W0.out 3 10).mono ?_
  rintro e w2 ⟨rfl, F1, hw, hk, hn⟩
  rw [show setE 3 10 = 0 from rfl]
  have W1 := hid (show Wl w2 b F1 [(3, 10)] from hw)
  have K1 := hid (K0.out.past hk (by intro k hk hl; have := NB0.out k hk; omega))
  have NB1 := hid (show ∀ k ∈ rows F1 b, w.heap.size ≤ k from fun k hk => by
    rcases hn.rows hk with q | q
    · exact NB0.out k q
    · have := K0.out.size; omega)
  clear hw hk hn W0 K0 NB0
  go_wp2_with fail
  refine (wset _ b F1 [(3, 10)] W1.out 1 5).mono ?_
  rintro e w2 ⟨rfl, F2, hw, hk, hn⟩
  rw [show setE 1 5 = 0 from rfl]
  have W2 := hid (show Wl w2 b F2 [(1, 5), (3, 10)] from hw)
  have K2 := hid (K1.out.past hk (by intro k hk hl; have := NB1.out k hk; omega))
  have NB2 := hid (show ∀ k ∈ rows F2 b, w.heap.size ≤ k from fun k hk => by
    rcases hn.rows hk with q | q
    · exact NB1.out k q
    · have := K1.out.size; omega)
  clear hw hk hn W1 K1 NB1
  go_wp2_with fail
  refine (wset _ b F2 [(1, 5), (3, 10)] W2.out 2 5).mono ?_
  rintro e w2 ⟨rfl, F3, hw, hk, hn⟩
  rw [show setE 2 5 = 0 from rfl]
  have W3 := hid (show Wl w2 b F3 [(1, 5), (2, 5), (3, 10)] from hw)
  have K3 := hid (K2.out.past hk (by intro k hk hl; have := NB2.out k hk; omega))
  have NB3 := hid (show ∀ k ∈ rows F3 b, w.heap.size ≤ k from fun k hk => by
    rcases hn.rows hk with q | q
    · exact NB2.out k q
    · have := K2.out.size; omega)
  clear hw hk hn W2 K2 NB2
  go_wp2_with fail
  refine (wset _ b F3 [(1, 5), (2, 5), (3, 10)] W3.out 3 5).mono ?_
  rintro e w2 ⟨rfl, F4, hw, hk, hn⟩
  rw [show setE 3 5 = 0 from rfl]
  have W4 := hid (show Wl w2 b F4 [(1, 5), (2, 5), (3, 5)] from hw)
  have K4 := hid (K3.out.past hk (by intro k hk hl; have := NB3.out k hk; omega))
  have NB4 := hid (show ∀ k ∈ rows F4 b, w.heap.size ≤ k from fun k hk => by
    rcases hn.rows hk with q | q
    · exact NB3.out k q
    · have := K3.out.size; omega)
  clear hw hk hn W3 K3 NB3
  go_wp2_with fail
  refine (wfirst _ b F4 [(1, 5), (2, 5), (3, 5)] W4.out).mono ?_
  rintro e w2 ⟨rfl, hk⟩
  have W4 := hid (W4.out.same hk)
  have K4 := hid (K4.out.trans hk)
  clear hk
  go_wp2_with fail
  refine (wdue _ b F4 [(1, 5), (2, 5), (3, 5)] W4.out 4).mono ?_
  rintro e w2 ⟨v, rfl, hN, F5, hw, hk, hn⟩
  obtain ⟨ao, cap, rfl⟩ := hN.slice
  rw [show (dueO 4 [(1, 5), (2, 5), (3, 5)]).length = 0 from rfl]
  have W5 := hid (show Wl w2 b F5 [(1, 5), (2, 5), (3, 5)] from hw)
  have K5 := hid (K4.out.past hk (by intro k hk hl; have := NB4.out k hk; omega))
  have NB5 := hid (show ∀ k ∈ rows F5 b, w.heap.size ≤ k from fun k hk => by
    rcases hn.rows hk with q | q
    · exact NB4.out k q
    · have := K4.out.size; omega)
  clear hw hk hn hN W4 K4 NB4
  go_wp2_with fail
  refine (wdue _ b F5 [(1, 5), (2, 5), (3, 5)] W5.out 7).mono ?_
  rintro e w3 ⟨v, rfl, hN, F6, hw, hk, hn⟩
  obtain ⟨ao3, cap3, hv⟩ := hN.slice
  rw [show (dueO 7 [(1, 5), (2, 5), (3, 5)]).length = 3 from rfl] at hv
  subst hv
  have N6 := hid (show Ns w3 w2.heap.size (.slice ao3 3 cap3) [1, 2, 3] from hN)
  have W6 := hid (show Wl w3 b F6 [] from hw)
  have K6 := hid (K5.out.past hk (by intro k hk hl; have := NB5.out k hk; omega))
  have NB6 := hid (show ∀ k ∈ rows F6 b, w.heap.size ≤ k from fun k hk => by
    rcases hn.rows hk with q | q
    · exact NB5.out k q
    · have := K5.out.size; omega)
  clear hw hk hn hN W5 K5 NB5
  go_wp2_with fail
  have ka := hid (Kp.alloc w3 (.cells #[.int .i64 1, .int .i64 2, .int .i64 3] 3) [])
  refine (ints_any _ _ _ _ _ [1, 2, 3] [1, 2, 3] (N6.out.keep ka.out) (ns_lit w3 1 2 3) (by decide)).mono ?_
  rintro e w4 ⟨rfl, hk⟩
  rw [show decide (([1, 2, 3] : List Int) = [1, 2, 3]) = true from rfl]
  have W7 := hid (W6.out.same (ka.out.trans hk))
  have K7 := hid ((K6.out.trans ka.out).trans hk)
  clear hk W6 K6 N6 ka
  go_wp2_with fail
  refine (wlen _ b F6 [] W7.out).mono ?_
  rintro e w5 ⟨rfl, hk⟩
  rw [show ((([] : List Dl).length : Nat) : Int) = 0 from rfl]
  have W8 := hid (W7.out.same hk)
  have K8 := hid (K7.out.trans hk)
  have NB8 := NB6
  obtain ⟨F8, hF8⟩ : ∃ F8, F6 = F8 := ⟨_, rfl⟩
  subst hF8
  clear hk W7 K7 NB6
  go_wp2_with fail
  refine (set_no _ b F6 [] W8.out 64 1 (by decide)).mono ?_
  rintro e w6 ⟨rfl, rfl⟩
  go_wp2_with fail
  refine (set_no _ b F6 [] W8.out 0 (-1) (by decide)).mono ?_
  rintro e w6 ⟨rfl, rfl⟩
  go_wp2_with fail
  refine (wcancel _ b F6 [] W8.out 0).mono ?_
  rintro e w7 ⟨rfl, F9, hw, hk, hn⟩
  rw [show canE 0 [] = 6 from rfl]
  have K9 := hid (K8.out.past hk (by intro k hk hl; have := NB8.out k hk; omega))
  clear hw hk hn
  go_wp2
  go_ret
  exact ⟨rfl, K9.out⟩
end Go.Proofs.Ytoaceeddcnijoaa
