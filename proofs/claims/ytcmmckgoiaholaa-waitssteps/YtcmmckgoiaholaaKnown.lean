/- known: the chapter's rows. -/
import Derived.Test.YtcmmckgoiaholaaLi
namespace Go.Proofs.Ytcmmckgoiaholaa
open Go.RowKit Go.Shelf Go.Lib Go.Sort Go.Maps

theorem fst_eq (L Z : List Dl) (h : ordK L 31 = Z) (t : Int) (b : Bool) (ht : (Z.headD (0, 0)).1 = t) (hb : (!Z.isEmpty) = b) : fstT L = t ∧ fstB L = b := by
  unfold fstT fstB
  rw [ordL_eq, h]
  exact ⟨ht, hb⟩
theorem take_eq (L Z R : List Dl) (h : ordK L 31 = Z) (t : Int) (ht : (Z.headD (0, 0)).1 = t) (hb : (!Z.isEmpty) = true) (hr : delP L t = R) : fstT L = t ∧ fstB L = true ∧ takeL L = R := by
  obtain ⟨h1, h2⟩ := fst_eq L Z h t true ht hb
  refine ⟨h1, h2, ?_⟩
  unfold takeL
  rw [h1, h2, if_pos rfl, hr]
theorem keys_eq (L : List Dl) (l : List Int) (h : (ordK L 31).map (·.1) = l) : (ordL L).map (·.1) = l := by rw [ordL_eq]; exact h
set_option maxRecDepth 100000 in
set_option maxHeartbeats 4000000 in
theorem known_any (w : World) : Calls Try.prog 10 #[] w fun e w' => e = .returned (.bool true) ∧ Kp w w' [] := by
  go_enter Try.func10, Try.ntmps10
  go_wp2_with fail
  refine (li_new w).mono ?_
  rintro e w1 ⟨b, rfl, hl⟩
  have H := hid hl
  clear hl
  go_wp2_with (go_at_call 13; go_in)
  refine (H.out.put 1 5).mono ?_
  rintro e w2 ⟨rfl, hl⟩
  rw [show putE [] 1 5 = 0 from by decide +kernel]
  rw [show putL [] 1 5 = [(1, 5)] from by decide +kernel] at hl
  have H := hid hl
  clear hl
  go_wp2_with (go_at_call 13; go_in)
  refine (H.out.put 2 9).mono ?_
  rintro e w3 ⟨rfl, hl⟩
  rw [show putE [(1, 5)] 2 9 = 0 from by decide +kernel]
  rw [show putL [(1, 5)] 2 9 = [(1, 5), (2, 9)] from by decide +kernel] at hl
  have H := hid hl
  clear hl
  go_wp2_with (go_at_call 13; go_in)
  refine (H.out.put 3 5).mono ?_
  rintro e w4 ⟨rfl, hl⟩
  rw [show putE [(1, 5), (2, 9)] 3 5 = 0 from by decide +kernel]
  rw [show putL [(1, 5), (2, 9)] 3 5 = [(1, 5), (2, 9), (3, 5)] from by decide +kernel] at hl
  have H := hid hl
  clear hl
  go_wp2_with (go_at_call 13; go_in)
  refine (H.out.put 1 7).mono ?_
  rintro e w5 ⟨rfl, hl⟩
  rw [show putE [(1, 5), (2, 9), (3, 5)] 1 7 = 7 from by decide +kernel]
  rw [show putL [(1, 5), (2, 9), (3, 5)] 1 7 = [(1, 5), (2, 9), (3, 5)] from by decide +kernel] at hl
  have H := hid hl
  clear hl
  go_wp2_with (go_at_call 13; go_in)
  refine (H.out.put 16 1).mono ?_
  rintro e w6 ⟨rfl, hl⟩
  rw [show putE [(1, 5), (2, 9), (3, 5)] 16 1 = 2 from by decide +kernel]
  rw [show putL [(1, 5), (2, 9), (3, 5)] 16 1 = [(1, 5), (2, 9), (3, 5)] from by decide +kernel] at hl
  have H := hid hl
  clear hl
  go_wp2_with (go_at_call 13; go_in)
  refine (H.out.put 4 32).mono ?_
  rintro e w7 ⟨rfl, hl⟩
  rw [show putE [(1, 5), (2, 9), (3, 5)] 4 32 = 2 from by decide +kernel]
  rw [show putL [(1, 5), (2, 9), (3, 5)] 4 32 = [(1, 5), (2, 9), (3, 5)] from by decide +kernel] at hl
  have H := hid hl
  clear hl
  go_wp2_with (go_at_call 13; go_in)
  refine (H.out.list).mono ?_
  rintro e w8 ⟨v, rfl, hl⟩
  rw [keys_eq [(1, 5), (2, 9), (3, 5)] [2, 1, 3] (by decide +kernel)] at hl
  obtain ⟨a8, c8, hv⟩ := (hl.ns (x := (v, [2, 1, 3])) (by simp)).slice
  simp only at hv
  rw [show ([2, 1, 3] : List Int).length = 3 from rfl] at hv
  subst hv
  have H := hid hl
  clear hl
  go_wp2_with (go_at_call 13; go_in)
  refine (H.out.chg 3 9).mono ?_
  rintro e w9 ⟨rfl, hl⟩
  rw [show chgE [(1, 5), (2, 9), (3, 5)] 3 9 = 0 from by decide +kernel]
  rw [show chgL [(1, 5), (2, 9), (3, 5)] 3 9 = [(1, 5), (2, 9), (3, 9)] from by decide +kernel] at hl
  have H := hid hl
  clear hl
  go_wp2_with (go_at_call 13; go_in)
  refine (H.out.list).mono ?_
  rintro e w10 ⟨v, rfl, hl⟩
  rw [keys_eq [(1, 5), (2, 9), (3, 9)] [2, 3, 1] (by decide +kernel)] at hl
  obtain ⟨a10, c10, hv⟩ := (hl.ns (x := (v, [2, 3, 1])) (by simp)).slice
  simp only at hv
  rw [show ([2, 3, 1] : List Int).length = 3 from rfl] at hv
  subst hv
  have H := hid hl
  clear hl
  go_wp2_with (go_at_call 13; go_in)
  refine (H.out.chg 1 9).mono ?_
  rintro e w11 ⟨rfl, hl⟩
  rw [show chgE [(1, 5), (2, 9), (3, 9)] 1 9 = 0 from by decide +kernel]
  rw [show chgL [(1, 5), (2, 9), (3, 9)] 1 9 = [(1, 9), (2, 9), (3, 9)] from by decide +kernel] at hl
  have H := hid hl
  clear hl
  go_wp2_with (go_at_call 13; go_in)
  refine (H.out.list).mono ?_
  rintro e w12 ⟨v, rfl, hl⟩
  rw [keys_eq [(1, 9), (2, 9), (3, 9)] [1, 2, 3] (by decide +kernel)] at hl
  obtain ⟨a12, c12, hv⟩ := (hl.ns (x := (v, [1, 2, 3])) (by simp)).slice
  simp only at hv
  rw [show ([1, 2, 3] : List Int).length = 3 from rfl] at hv
  subst hv
  have H := hid hl
  clear hl
  go_wp2_with (go_at_call 13; go_in)
  refine (H.out.chg 0 1).mono ?_
  rintro e w13 ⟨rfl, hl⟩
  rw [show chgE [(1, 9), (2, 9), (3, 9)] 0 1 = 6 from by decide +kernel]
  rw [show chgL [(1, 9), (2, 9), (3, 9)] 0 1 = [(1, 9), (2, 9), (3, 9)] from by decide +kernel] at hl
  have H := hid hl
  clear hl
  go_wp2_with (go_at_call 13; go_in)
  refine (H.out.take).mono ?_
  rintro e w14 ⟨rfl, hl⟩
  obtain ⟨e1, e2, e3⟩ := take_eq [(1, 9), (2, 9), (3, 9)] [(1, 9), (2, 9), (3, 9)] [(2, 9), (3, 9)] (by decide +kernel) 1 rfl rfl (by decide +kernel)
  rw [e1, e2]
  rw [e3] at hl
  have H := hid hl
  clear hl e1 e2 e3
  go_wp2_with (go_at_call 13; go_in)
  refine (H.out.lv 2).mono ?_
  rintro e w15 ⟨rfl, hl⟩
  rw [show lvE [(2, 9), (3, 9)] 2 = 0 from by decide +kernel]
  rw [show lvL [(2, 9), (3, 9)] 2 = [(3, 9)] from by decide +kernel] at hl
  have H := hid hl
  clear hl
  go_wp2_with (go_at_call 13; go_in)
  refine (H.out.first).mono ?_
  rintro e w16 ⟨rfl, hl⟩
  obtain ⟨e1, e2⟩ := fst_eq [(3, 9)] [(3, 9)] (by decide +kernel) 3 true rfl rfl
  rw [e1, e2]
  have H := hid hl
  clear hl e1 e2
  go_wp2_with (go_at_call 13; go_in)
  refine (H.out.len).mono ?_
  rintro e w17 ⟨rfl, hw⟩
  rw [show ((([(3, 9)] : List Dl).length : Nat) : Int) = 1 from rfl]
  have H : Hid (Li w w17 b [(3, 9)] [(.slice a12 3 c12, [1, 2, 3]), (.slice a10 3 c10, [2, 3, 1]), (.slice a8 3 c8, [2, 1, 3])]) := hid (by rw [hw]; exact H.out)
  clear hw
  go_wp2_with (go_at_call 13; go_in)
  refine (H.out.clear).mono ?_
  rintro e w18 ⟨v, rfl, hl⟩
  rw [keys_eq [(3, 9)] [3] (by decide +kernel)] at hl
  obtain ⟨a18, c18, hv⟩ := (hl.ns (x := (v, [3])) (by simp)).slice
  simp only at hv
  rw [show ([3] : List Int).length = 1 from rfl] at hv
  subst hv
  have H := hid hl
  clear hl
  go_wp2_with (go_at_call 13; go_in)
  have ka := hid (Kp.alloc w18 (.cells #[.int .i64 2, .int .i64 1, .int .i64 3] 3) [])
  refine (ints_any _ _ _ _ _ [2, 1, 3] [2, 1, 3] ((H.out.ns (x := (.slice a8 3 c8, [2, 1, 3])) (by simp)).keep ka.out) (ns_l3 _ 2 1 3) (by decide)).mono ?_
  rintro e w19 ⟨rfl, hk⟩
  rw [show decide (([2, 1, 3] : List Int) = [2, 1, 3]) = true from by decide +kernel]
  have H := hid (H.out.same (ka.out.trans hk))
  clear hk ka
  go_wp2_with (go_at_call 13; go_in)
  have ka := hid (Kp.alloc w19 (.cells #[.int .i64 2, .int .i64 3, .int .i64 1] 3) [])
  refine (ints_any _ _ _ _ _ [2, 3, 1] [2, 3, 1] ((H.out.ns (x := (.slice a10 3 c10, [2, 3, 1])) (by simp)).keep ka.out) (ns_l3 _ 2 3 1) (by decide)).mono ?_
  rintro e w20 ⟨rfl, hk⟩
  rw [show decide (([2, 3, 1] : List Int) = [2, 3, 1]) = true from by decide +kernel]
  have H := hid (H.out.same (ka.out.trans hk))
  clear hk ka
  go_wp2_with (go_at_call 13; go_in)
  have ka := hid (Kp.alloc w20 (.cells #[.int .i64 1, .int .i64 2, .int .i64 3] 3) [])
  refine (ints_any _ _ _ _ _ [1, 2, 3] [1, 2, 3] ((H.out.ns (x := (.slice a12 3 c12, [1, 2, 3])) (by simp)).keep ka.out) (ns_l3 _ 1 2 3) (by decide)).mono ?_
  rintro e w21 ⟨rfl, hk⟩
  rw [show decide (([1, 2, 3] : List Int) = [1, 2, 3]) = true from by decide +kernel]
  have H := hid (H.out.same (ka.out.trans hk))
  clear hk ka
  go_wp2_with (go_at_call 13; go_in)
  have ka := hid (Kp.alloc w21 (.cells #[.int .i64 3] 3) [])
  refine (ints_any _ _ _ _ _ [3] [3] ((H.out.ns (x := (.slice a18 1 c18, [3])) (by simp)).keep ka.out) (ns_l1 _ 3) (by decide)).mono ?_
  rintro e w22 ⟨rfl, hk⟩
  rw [show decide (([3] : List Int) = [3]) = true from by decide +kernel]
  have H := hid (H.out.same (ka.out.trans hk))
  clear hk ka
  go_wp2_with (go_at_call 13; go_in)
  go_ret
  exact ⟨rfl, H.out.kp⟩
end Go.Proofs.Ytcmmckgoiaholaa
