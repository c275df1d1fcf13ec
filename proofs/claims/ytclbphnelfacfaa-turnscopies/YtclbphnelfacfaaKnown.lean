/- known: the chapter's rows. -/
import Derived.Test.YtclbphnelfacfaaKn
namespace Go.Proofs.Ytclbphnelfacfaa
open Go.RowKit Go.Shelf

def lk : List (Nat × List Nat) → Ls
  | [] => L0
  | x :: r => updL (lk r) x.1 x.2
def sk : List (Nat × Bool × Nat) → Sh
  | [] => S0
  | x :: r => updS (sk r) x.1 x.2
set_option maxRecDepth 100000 in
set_option maxHeartbeats 4000000 in
theorem known_any (w : World) : Calls Try.prog 11 #[] w fun e w' => e = .returned (.bool true) ∧ Kp w w' [] := by
  go_enter Try.func11, Try.ntmps11
  go_wp2_with fail
  refine (kn_new w w (Kp.refl _ _) 2 (by decide) (by decide)).mono ?_
  rintro e w1 ⟨xb, rb, rfl, hl⟩
  have H : Hid (Kn w w1 xb rb 2 (sk []) (lk []) 0) := hl
  clear hl
  go_wp2_with fail
  refine (H.out.run (fun s hs h => h.add (by omega) 1 5 true)).mono ?_
  rintro e w2 ⟨rfl, hl⟩
  rw [show putE (lk []) 5 1 = 0 from by kernel_rfl]
  rw [show addS 2 (sk []) (lk []) 1 5 true = sk [(1, true, 2)] from by kernel_rfl] at hl
  rw [show putL false (lk []) 5 1 = lk [(5, [1])] from by kernel_rfl] at hl
  have H : Hid (Kn w w2 xb rb 2 (sk [(1, true, 2)]) (lk [(5, [1])]) 12) := hl.more (by omega)
  clear hl
  go_wp2_with fail
  refine (H.out.run (fun s hs h => h.add (by omega) 2 5 true)).mono ?_
  rintro e w3 ⟨rfl, hl⟩
  rw [show putE (lk [(5, [1])]) 5 2 = 0 from by kernel_rfl]
  rw [show addS 2 (sk [(1, true, 2)]) (lk [(5, [1])]) 2 5 true = sk [(2, true, 2), (1, true, 2)] from by kernel_rfl] at hl
  rw [show putL false (lk [(5, [1])]) 5 2 = lk [(5, [1, 2]), (5, [1])] from by kernel_rfl] at hl
  have H : Hid (Kn w w3 xb rb 2 (sk [(2, true, 2), (1, true, 2)]) (lk [(5, [1, 2]), (5, [1])]) 24) := hl.more (by omega)
  clear hl
  go_wp2_with fail
  refine (H.out.run (fun s hs h => h.add (by omega) 3 4 false)).mono ?_
  rintro e w4 ⟨rfl, hl⟩
  rw [show putE (lk [(5, [1, 2]), (5, [1])]) 4 3 = 0 from by kernel_rfl]
  rw [show addS 2 (sk [(2, true, 2), (1, true, 2)]) (lk [(5, [1, 2]), (5, [1])]) 3 4 false = sk [(3, false, 2), (2, true, 2), (1, true, 2)] from by kernel_rfl] at hl
  rw [show putL false (lk [(5, [1, 2]), (5, [1])]) 4 3 = lk [(4, [3]), (5, [1, 2]), (5, [1])] from by kernel_rfl] at hl
  have H : Hid (Kn w w4 xb rb 2 (sk [(3, false, 2), (2, true, 2), (1, true, 2)]) (lk [(4, [3]), (5, [1, 2]), (5, [1])]) 36) := hl.more (by omega)
  clear hl
  go_wp2_with fail
  refine (H.out.run (fun s hs h => h.add (by omega) 1 5 true)).mono ?_
  rintro e w5 ⟨rfl, hl⟩
  rw [show putE (lk [(4, [3]), (5, [1, 2]), (5, [1])]) 5 1 = 7 from by kernel_rfl]
  rw [show addS 2 (sk [(3, false, 2), (2, true, 2), (1, true, 2)]) (lk [(4, [3]), (5, [1, 2]), (5, [1])]) 1 5 true = sk [(3, false, 2), (2, true, 2), (1, true, 2)] from by kernel_rfl] at hl
  rw [show putL false (lk [(4, [3]), (5, [1, 2]), (5, [1])]) 5 1 = lk [(4, [3]), (5, [1, 2]), (5, [1])] from by kernel_rfl] at hl
  have H : Hid (Kn w w5 xb rb 2 (sk [(3, false, 2), (2, true, 2), (1, true, 2)]) (lk [(4, [3]), (5, [1, 2]), (5, [1])]) 48) := hl.more (by omega)
  clear hl
  go_wp2_with fail
  refine (H.out.run (fun s hs h => h.lruns (by omega) 1)).mono ?_
  rintro e w6 ⟨rfl, hl⟩
  rw [show runB (lk [(4, [3]), (5, [1, 2]), (5, [1])]) 1 = true from by kernel_rfl]
  have H : Hid (Kn w w6 xb rb 2 (sk [(3, false, 2), (2, true, 2), (1, true, 2)]) (lk [(4, [3]), (5, [1, 2]), (5, [1])]) 49) := hl.more (by omega)
  clear hl
  go_wp2_with fail
  refine (H.out.run (fun s hs h => h.tick (by omega))).mono ?_
  rintro e w7 ⟨rfl, hl⟩
  rw [show (tkV (lk [(4, [3]), (5, [1, 2]), (5, [1])]) (sk [(3, false, 2), (2, true, 2), (1, true, 2)]) : Nat) = 0 from by kernel_rfl]
  rw [show tkB (lk [(4, [3]), (5, [1, 2]), (5, [1])]) (sk [(3, false, 2), (2, true, 2), (1, true, 2)]) = false from by kernel_rfl]
  rw [show tkS 2 (lk [(4, [3]), (5, [1, 2]), (5, [1])]) (sk [(3, false, 2), (2, true, 2), (1, true, 2)]) = sk [(1, true, 1), (3, false, 2), (2, true, 2), (1, true, 2)] from by kernel_rfl] at hl
  rw [show tkL (lk [(4, [3]), (5, [1, 2]), (5, [1])]) (sk [(3, false, 2), (2, true, 2), (1, true, 2)]) = lk [(4, [3]), (5, [1, 2]), (5, [1])] from by kernel_rfl] at hl
  have H : Hid (Kn w w7 xb rb 2 (sk [(1, true, 1), (3, false, 2), (2, true, 2), (1, true, 2)]) (lk [(4, [3]), (5, [1, 2]), (5, [1])]) 69) := hl.more (by omega)
  clear hl
  go_wp2_with fail
  refine (H.out.run (fun s hs h => h.tick (by omega))).mono ?_
  rintro e w8 ⟨rfl, hl⟩
  rw [show (tkV (lk [(4, [3]), (5, [1, 2]), (5, [1])]) (sk [(1, true, 1), (3, false, 2), (2, true, 2), (1, true, 2)]) : Nat) = 1 from by kernel_rfl]
  rw [show tkB (lk [(4, [3]), (5, [1, 2]), (5, [1])]) (sk [(1, true, 1), (3, false, 2), (2, true, 2), (1, true, 2)]) = true from by kernel_rfl]
  rw [show tkS 2 (lk [(4, [3]), (5, [1, 2]), (5, [1])]) (sk [(1, true, 1), (3, false, 2), (2, true, 2), (1, true, 2)]) = sk [(1, true, 2), (1, true, 1), (3, false, 2), (2, true, 2), (1, true, 2)] from by kernel_rfl] at hl
  rw [show tkL (lk [(4, [3]), (5, [1, 2]), (5, [1])]) (sk [(1, true, 1), (3, false, 2), (2, true, 2), (1, true, 2)]) = lk [(5, [2, 1]), (5, [2]), (4, [3]), (5, [1, 2]), (5, [1])] from by kernel_rfl] at hl
  have H : Hid (Kn w w8 xb rb 2 (sk [(1, true, 2), (1, true, 1), (3, false, 2), (2, true, 2), (1, true, 2)]) (lk [(5, [2, 1]), (5, [2]), (4, [3]), (5, [1, 2]), (5, [1])]) 89) := hl.more (by omega)
  clear hl
  go_wp2_with fail
  refine (H.out.look (fun s h => h.leftOf 1)).mono ?_
  rintro e w9 ⟨rfl, hw⟩
  rw [show (if prI (lk [(5, [2, 1]), (5, [2]), (4, [3]), (5, [1, 2]), (5, [1])]) 1 = 0 then 0 else ((sk [(1, true, 2), (1, true, 1), (3, false, 2), (2, true, 2), (1, true, 2)]) (1 : Int).toNat).2 : Nat) = 2 from by kernel_rfl, show decide (prI (lk [(5, [2, 1]), (5, [2]), (4, [3]), (5, [1, 2]), (5, [1])]) 1 ≠ 0) = true from by kernel_rfl]
  have H : Hid (Kn w w9 xb rb 2 (sk [(1, true, 2), (1, true, 1), (3, false, 2), (2, true, 2), (1, true, 2)]) (lk [(5, [2, 1]), (5, [2]), (4, [3]), (5, [1, 2]), (5, [1])]) 89) := hid (by rw [hw]; exact H.out)
  clear hw
  go_wp2_with fail
  refine (H.out.run (fun s hs h => h.lruns (by omega) 2)).mono ?_
  rintro e w10 ⟨rfl, hl⟩
  rw [show runB (lk [(5, [2, 1]), (5, [2]), (4, [3]), (5, [1, 2]), (5, [1])]) 2 = true from by kernel_rfl]
  have H : Hid (Kn w w10 xb rb 2 (sk [(1, true, 2), (1, true, 1), (3, false, 2), (2, true, 2), (1, true, 2)]) (lk [(5, [2, 1]), (5, [2]), (4, [3]), (5, [1, 2]), (5, [1])]) 90) := hl.more (by omega)
  clear hl
  go_wp2_with fail
  refine (H.out.run (fun s hs h => h.move (by omega) 3 6)).mono ?_
  rintro e w11 ⟨rfl, hl⟩
  rw [show mvE (lk [(5, [2, 1]), (5, [2]), (4, [3]), (5, [1, 2]), (5, [1])]) 3 6 = 0 from by kernel_rfl]
  rw [show moL (lk [(5, [2, 1]), (5, [2]), (4, [3]), (5, [1, 2]), (5, [1])]) 3 6 = lk [(6, [3]), (4, []), (5, [2, 1]), (5, [2]), (4, [3]), (5, [1, 2]), (5, [1])] from by kernel_rfl] at hl
  have H : Hid (Kn w w11 xb rb 2 (sk [(1, true, 2), (1, true, 1), (3, false, 2), (2, true, 2), (1, true, 2)]) (lk [(6, [3]), (4, []), (5, [2, 1]), (5, [2]), (4, [3]), (5, [1, 2]), (5, [1])]) 102) := hl.more (by omega)
  clear hl
  go_wp2_with fail
  refine (H.out.run (fun s hs h => h.lruns (by omega) 3)).mono ?_
  rintro e w12 ⟨rfl, hl⟩
  rw [show runB (lk [(6, [3]), (4, []), (5, [2, 1]), (5, [2]), (4, [3]), (5, [1, 2]), (5, [1])]) 3 = true from by kernel_rfl]
  have H : Hid (Kn w w12 xb rb 2 (sk [(1, true, 2), (1, true, 1), (3, false, 2), (2, true, 2), (1, true, 2)]) (lk [(6, [3]), (4, []), (5, [2, 1]), (5, [2]), (4, [3]), (5, [1, 2]), (5, [1])]) 103) := hl.more (by omega)
  clear hl
  go_wp2_with fail
  refine (H.out.run (fun s hs h => h.move (by omega) 3 5)).mono ?_
  rintro e w13 ⟨rfl, hl⟩
  rw [show mvE (lk [(6, [3]), (4, []), (5, [2, 1]), (5, [2]), (4, [3]), (5, [1, 2]), (5, [1])]) 3 5 = 0 from by kernel_rfl]
  rw [show moL (lk [(6, [3]), (4, []), (5, [2, 1]), (5, [2]), (4, [3]), (5, [1, 2]), (5, [1])]) 3 5 = lk [(5, [3, 2, 1]), (6, []), (6, [3]), (4, []), (5, [2, 1]), (5, [2]), (4, [3]), (5, [1, 2]), (5, [1])] from by kernel_rfl] at hl
  have H : Hid (Kn w w13 xb rb 2 (sk [(1, true, 2), (1, true, 1), (3, false, 2), (2, true, 2), (1, true, 2)]) (lk [(5, [3, 2, 1]), (6, []), (6, [3]), (4, []), (5, [2, 1]), (5, [2]), (4, [3]), (5, [1, 2]), (5, [1])]) 115) := hl.more (by omega)
  clear hl
  go_wp2_with fail
  refine (H.out.of 5).mono ?_
  rintro e w14 ⟨⟨V, rfl, hV⟩, hk⟩
  rw [show seqI (lk [(5, [3, 2, 1]), (6, []), (6, [3]), (4, []), (5, [2, 1]), (5, [2]), (4, [3]), (5, [1, 2]), (5, [1])]) 5 = [3, 2, 1] from by kernel_rfl] at hV
  obtain ⟨av, cv, rfl⟩ := hV.slice
  simp only [List.length_cons, List.length_nil, Nat.zero_add, Nat.reduceAdd] at hV ⊢
  have HV := hid hV
  have H := hid (H.out.same hk)
  clear hV hk
  go_wp2_with fail
  have ka := hid (Kp.alloc w14 (.cells #[.int .i64 3, .int .i64 2, .int .i64 1] 3) [])
  refine (ints_any _ _ _ _ _ [3, 2, 1] [3, 2, 1] (HV.out.keep ka.out) (ns_l3 _ 3 2 1) (by decide) (by decide)).mono ?_
  rintro e w15 ⟨rfl, hk⟩
  rw [show decide (([3, 2, 1] : List Nat) = [3, 2, 1]) = true from by decide +kernel]
  have H := hid (H.out.same (ka.out.trans hk))
  clear hk ka HV
  go_wp2_with fail
  refine (H.out.run (fun s hs h => h.lift (by omega) 1 7)).mono ?_
  rintro e w16 ⟨rfl, hl⟩
  rw [show mvE (lk [(5, [3, 2, 1]), (6, []), (6, [3]), (4, []), (5, [2, 1]), (5, [2]), (4, [3]), (5, [1, 2]), (5, [1])]) 1 7 = 0 from by kernel_rfl]
  rw [show liL (lk [(5, [3, 2, 1]), (6, []), (6, [3]), (4, []), (5, [2, 1]), (5, [2]), (4, [3]), (5, [1, 2]), (5, [1])]) 1 7 = lk [(7, [1]), (5, [3, 2]), (5, [3, 2, 1]), (6, []), (6, [3]), (4, []), (5, [2, 1]), (5, [2]), (4, [3]), (5, [1, 2]), (5, [1])] from by kernel_rfl] at hl
  have H : Hid (Kn w w16 xb rb 2 (sk [(1, true, 2), (1, true, 1), (3, false, 2), (2, true, 2), (1, true, 2)]) (lk [(7, [1]), (5, [3, 2]), (5, [3, 2, 1]), (6, []), (6, [3]), (4, []), (5, [2, 1]), (5, [2]), (4, [3]), (5, [1, 2]), (5, [1])]) 127) := hl.more (by omega)
  clear hl
  go_wp2_with fail
  refine (H.out.run (fun s hs h => h.lruns (by omega) 1)).mono ?_
  rintro e w17 ⟨rfl, hl⟩
  rw [show runB (lk [(7, [1]), (5, [3, 2]), (5, [3, 2, 1]), (6, []), (6, [3]), (4, []), (5, [2, 1]), (5, [2]), (4, [3]), (5, [1, 2]), (5, [1])]) 1 = true from by kernel_rfl]
  have H : Hid (Kn w w17 xb rb 2 (sk [(1, true, 2), (1, true, 1), (3, false, 2), (2, true, 2), (1, true, 2)]) (lk [(7, [1]), (5, [3, 2]), (5, [3, 2, 1]), (6, []), (6, [3]), (4, []), (5, [2, 1]), (5, [2]), (4, [3]), (5, [1, 2]), (5, [1])]) 128) := hl.more (by omega)
  clear hl
  go_wp2_with fail
  refine (H.out.run (fun s hs h => h.lift (by omega) 1 5)).mono ?_
  rintro e w18 ⟨rfl, hl⟩
  rw [show mvE (lk [(7, [1]), (5, [3, 2]), (5, [3, 2, 1]), (6, []), (6, [3]), (4, []), (5, [2, 1]), (5, [2]), (4, [3]), (5, [1, 2]), (5, [1])]) 1 5 = 0 from by kernel_rfl]
  rw [show liL (lk [(7, [1]), (5, [3, 2]), (5, [3, 2, 1]), (6, []), (6, [3]), (4, []), (5, [2, 1]), (5, [2]), (4, [3]), (5, [1, 2]), (5, [1])]) 1 5 = lk [(5, [1, 3, 2]), (7, []), (7, [1]), (5, [3, 2]), (5, [3, 2, 1]), (6, []), (6, [3]), (4, []), (5, [2, 1]), (5, [2]), (4, [3]), (5, [1, 2]), (5, [1])] from by kernel_rfl] at hl
  have H : Hid (Kn w w18 xb rb 2 (sk [(1, true, 2), (1, true, 1), (3, false, 2), (2, true, 2), (1, true, 2)]) (lk [(5, [1, 3, 2]), (7, []), (7, [1]), (5, [3, 2]), (5, [3, 2, 1]), (6, []), (6, [3]), (4, []), (5, [2, 1]), (5, [2]), (4, [3]), (5, [1, 2]), (5, [1])]) 140) := hl.more (by omega)
  clear hl
  go_wp2_with fail
  refine (H.out.of 5).mono ?_
  rintro e w19 ⟨⟨V, rfl, hV⟩, hk⟩
  rw [show seqI (lk [(5, [1, 3, 2]), (7, []), (7, [1]), (5, [3, 2]), (5, [3, 2, 1]), (6, []), (6, [3]), (4, []), (5, [2, 1]), (5, [2]), (4, [3]), (5, [1, 2]), (5, [1])]) 5 = [1, 3, 2] from by kernel_rfl] at hV
  obtain ⟨av, cv, rfl⟩ := hV.slice
  simp only [List.length_cons, List.length_nil, Nat.zero_add, Nat.reduceAdd] at hV ⊢
  have HV := hid hV
  have H := hid (H.out.same hk)
  clear hV hk
  go_wp2_with fail
  have ka := hid (Kp.alloc w19 (.cells #[.int .i64 1, .int .i64 3, .int .i64 2] 3) [])
  refine (ints_any _ _ _ _ _ [1, 3, 2] [1, 3, 2] (HV.out.keep ka.out) (ns_l3 _ 1 3 2) (by decide) (by decide)).mono ?_
  rintro e w20 ⟨rfl, hk⟩
  rw [show decide (([1, 3, 2] : List Nat) = [1, 3, 2]) = true from by decide +kernel]
  have H := hid (H.out.same (ka.out.trans hk))
  clear hk ka HV
  go_wp2_with fail
  refine (H.out.run (fun s hs h => h.yield (by omega) 1)).mono ?_
  rintro e w21 ⟨rfl, hl⟩
  rw [show remE (lk [(5, [1, 3, 2]), (7, []), (7, [1]), (5, [3, 2]), (5, [3, 2, 1]), (6, []), (6, [3]), (4, []), (5, [2, 1]), (5, [2]), (4, [3]), (5, [1, 2]), (5, [1])]) 1 = 0 from by kernel_rfl]
  rw [show yiL (lk [(5, [1, 3, 2]), (7, []), (7, [1]), (5, [3, 2]), (5, [3, 2, 1]), (6, []), (6, [3]), (4, []), (5, [2, 1]), (5, [2]), (4, [3]), (5, [1, 2]), (5, [1])]) 1 = lk [(5, [3, 2, 1]), (5, [3, 2]), (5, [1, 3, 2]), (7, []), (7, [1]), (5, [3, 2]), (5, [3, 2, 1]), (6, []), (6, [3]), (4, []), (5, [2, 1]), (5, [2]), (4, [3]), (5, [1, 2]), (5, [1])] from by kernel_rfl] at hl
  have H : Hid (Kn w w21 xb rb 2 (sk [(1, true, 2), (1, true, 1), (3, false, 2), (2, true, 2), (1, true, 2)]) (lk [(5, [3, 2, 1]), (5, [3, 2]), (5, [1, 3, 2]), (7, []), (7, [1]), (5, [3, 2]), (5, [3, 2, 1]), (6, []), (6, [3]), (4, []), (5, [2, 1]), (5, [2]), (4, [3]), (5, [1, 2]), (5, [1])]) 152) := hl.more (by omega)
  clear hl
  go_wp2_with fail
  refine (H.out.of 5).mono ?_
  rintro e w22 ⟨⟨V, rfl, hV⟩, hk⟩
  rw [show seqI (lk [(5, [3, 2, 1]), (5, [3, 2]), (5, [1, 3, 2]), (7, []), (7, [1]), (5, [3, 2]), (5, [3, 2, 1]), (6, []), (6, [3]), (4, []), (5, [2, 1]), (5, [2]), (4, [3]), (5, [1, 2]), (5, [1])]) 5 = [3, 2, 1] from by kernel_rfl] at hV
  obtain ⟨av, cv, rfl⟩ := hV.slice
  simp only [List.length_cons, List.length_nil, Nat.zero_add, Nat.reduceAdd] at hV ⊢
  have HV := hid hV
  have H := hid (H.out.same hk)
  clear hV hk
  go_wp2_with fail
  have ka := hid (Kp.alloc w22 (.cells #[.int .i64 3, .int .i64 2, .int .i64 1] 3) [])
  refine (ints_any _ _ _ _ _ [3, 2, 1] [3, 2, 1] (HV.out.keep ka.out) (ns_l3 _ 3 2 1) (by decide) (by decide)).mono ?_
  rintro e w23 ⟨rfl, hk⟩
  rw [show decide (([3, 2, 1] : List Nat) = [3, 2, 1]) = true from by decide +kernel]
  have H := hid (H.out.same (ka.out.trans hk))
  clear hk ka HV
  go_wp2_with fail
  go_ret
  exact ⟨rfl, H.out.kp⟩
end Go.Proofs.Ytclbphnelfacfaa
