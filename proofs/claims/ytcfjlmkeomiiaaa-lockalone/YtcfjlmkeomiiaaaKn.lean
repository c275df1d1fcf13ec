/- known: the chapter's rows. -/
import Derived.Test.YtcfjlmkeomiiaaaKl
namespace Go.Proofs.Ytcfjlmkeomiiaaa
open Go.RowKit Go.Shelf Go.Lib Go.Sort Go.Maps
attribute [local go_sem] Oper.semAt_some

set_option maxRecDepth 100000 in
set_option maxHeartbeats 4000000 in
theorem known_any (w : World) : Calls Try.prog 11 #[] w fun e w' => e = .returned (.bool true) ∧ Kp w w' [] := by
  go_enter Try.func11, Try.ntmps11
  go_wp2_with fail
  refine (kl_new w).mono ?_
  rintro e w1 ⟨lb, rfl, hl⟩
  have H := hid hl
  clear hl
  go_wp2_with fail
  refine (H.out.read 1 5 true 0 (mkL (-1) [(1, 1)] [] []) (by decide +kernel) (by decide +kernel) (by decide +kernel)).mono ?_
  rintro e w2 ⟨rfl, hl⟩
  have H := hid hl
  clear hl
  go_wp2_with fail
  refine (H.out.read 1 5 true 0 (mkL (-1) [(1, 2)] [] []) (by decide +kernel) (by decide +kernel) (by decide +kernel)).mono ?_
  rintro e w3 ⟨rfl, hl⟩
  have H := hid hl
  clear hl
  go_wp2_with fail
  refine (H.out.write 2 5 false 0 (mkL (-1) [(1, 2)] [] [(2, 5)]) (by decide +kernel) (by decide +kernel) (by decide +kernel)).mono ?_
  rintro e w4 ⟨rfl, hl⟩
  have H := hid hl
  clear hl
  go_wp2_with fail
  refine (H.out.read 3 5 false 0 (mkL (-1) [(1, 2)] [(3, 5)] [(2, 5)]) (by decide +kernel) (by decide +kernel) (by decide +kernel)).mono ?_
  rintro e w5 ⟨rfl, hl⟩
  have H := hid hl
  clear hl
  go_wp2_with fail
  refine (H.out.read 4 6 true 0 (mkL (-1) [(1, 2), (4, 1)] [(3, 5)] [(2, 5)]) (by decide +kernel) (by decide +kernel) (by decide +kernel)).mono ?_
  rintro e w6 ⟨rfl, hl⟩
  have H := hid hl
  clear hl
  go_wp2_with fail
  refine (H.out.read 1 5 true 0 (mkL (-1) [(1, 3), (4, 1)] [(3, 5)] [(2, 5)]) (by decide +kernel) (by decide +kernel) (by decide +kernel)).mono ?_
  rintro e w7 ⟨rfl, hl⟩
  have H := hid hl
  clear hl
  go_wp2_with fail
  refine (H.out.write 1 5 false 7 (mkL (-1) [(1, 3), (4, 1)] [(3, 5)] [(2, 5)]) (by decide +kernel) (by decide +kernel) (by decide +kernel)).mono ?_
  rintro e w8 ⟨rfl, hl⟩
  have H := hid hl
  clear hl
  go_wp2_with fail
  refine (H.out.write 2 5 false 7 (mkL (-1) [(1, 3), (4, 1)] [(3, 5)] [(2, 5)]) (by decide +kernel) (by decide +kernel) (by decide +kernel)).mono ?_
  rintro e w9 ⟨rfl, hl⟩
  have H := hid hl
  clear hl
  go_wp2_with fail
  refine (H.out.unlock 9 [] 6 (mkL (-1) [(1, 3), (4, 1)] [(3, 5)] [(2, 5)]) (by decide +kernel) (by decide +kernel) (by decide +kernel)).mono ?_
  rintro e w10 ⟨ao, ac, rfl, hl⟩
  have H := hid hl
  clear hl
  go_wp2_with fail
  refine (H.out.unlock 4 [] 0 (mkL (-1) [(1, 3)] [(3, 5)] [(2, 5)]) (by decide +kernel) (by decide +kernel) (by decide +kernel)).mono ?_
  rintro e w11 ⟨jo, jc, rfl, hl⟩
  have H := hid hl
  clear hl
  go_wp2_with fail
  refine (H.out.writers [2] (by decide +kernel)).mono ?_
  rintro e w12 ⟨wo, wc, rfl, hl⟩
  have H := hid hl
  clear hl
  go_wp2_with fail
  refine (H.out.readers [3] (by decide +kernel)).mono ?_
  rintro e w13 ⟨ro, rc, rfl, hl⟩
  have H := hid hl
  clear hl
  go_wp2_with fail
  refine (H.out.leave 2 ⟨by decide, by decide⟩ [3] 0 (mkL (-1) [(1, 3), (3, 1)] [] []) (by decide +kernel) (by decide +kernel) (by decide +kernel)).mono ?_
  rintro e w14 ⟨mo, mc, rfl, hl⟩
  have H := hid hl
  clear hl
  go_wp2_with fail
  refine (H.out.readers [] (by decide +kernel)).mono ?_
  rintro e w15 ⟨oo, oc, rfl, hl⟩
  have H := hid hl
  clear hl
  go_wp2_with fail
  refine (H.out.reads 1 ⟨by decide, by decide⟩ 3 (by decide +kernel)).mono ?_
  rintro e wx ⟨rfl, hw⟩; obtain rfl := hw.symm
  go_wp2_with fail
  refine (H.out.reads 3 ⟨by decide, by decide⟩ 1 (by decide +kernel)).mono ?_
  rintro e wx ⟨rfl, hw⟩; obtain rfl := hw.symm
  go_wp2_with fail
  refine (H.out.unlock 1 [] 0 (mkL (-1) [(1, 2), (3, 1)] [] []) (by decide +kernel) (by decide +kernel) (by decide +kernel)).mono ?_
  rintro e w16 ⟨bo, bc, rfl, hl⟩
  have H := hid hl
  clear hl
  go_wp2_with fail
  refine (H.out.unlock 1 [] 0 (mkL (-1) [(1, 1), (3, 1)] [] []) (by decide +kernel) (by decide +kernel) (by decide +kernel)).mono ?_
  rintro e w17 ⟨co, cc, rfl, hl⟩
  have H := hid hl
  clear hl
  go_wp2_with fail
  refine (H.out.unlock 1 [] 0 (mkL (-1) [(3, 1)] [] []) (by decide +kernel) (by decide +kernel) (by decide +kernel)).mono ?_
  rintro e w18 ⟨so, sc, rfl, hl⟩
  have H := hid hl
  clear hl
  go_wp2_with fail
  refine (H.out.write 2 5 false 0 (mkL (-1) [(3, 1)] [] [(2, 5)]) (by decide +kernel) (by decide +kernel) (by decide +kernel)).mono ?_
  rintro e w19 ⟨rfl, hl⟩
  have H := hid hl
  clear hl
  go_wp2_with fail
  refine (H.out.unlock 3 [2] 0 (mkL (2) [] [] []) (by decide +kernel) (by decide +kernel) (by decide +kernel)).mono ?_
  rintro e w20 ⟨xo, xc, rfl, hl⟩
  have H := hid hl
  clear hl
  go_wp2_with fail
  refine (H.out.writer 2 true (by decide +kernel) (by decide +kernel)).mono ?_
  rintro e wx ⟨rfl, hw⟩; obtain rfl := hw.symm
  go_wp2_with fail
  refine (H.out.change 2 1 ⟨by decide, by decide⟩ [] 6 (mkL (2) [] [] []) (by decide +kernel) (by decide +kernel) (by decide +kernel)).mono ?_
  rintro e w21 ⟨no, nc, rfl, hl⟩
  have H := hid hl
  clear hl
  have N1 := hid (fun (z : World) (hk : Kp w21 z []) => (H.out.ns (x := (.slice wo 1 wc, [2])) (by simp)).keep hk)
  have N2 := hid (fun (z : World) (hk : Kp w21 z []) => (H.out.ns (x := (.slice ro 1 rc, [3])) (by simp)).keep hk)
  have N3 := hid (fun (z : World) (hk : Kp w21 z []) => (H.out.ns (x := (.slice mo 1 mc, [3])) (by simp)).keep hk)
  have N4 := hid (fun (z : World) (hk : Kp w21 z []) => (H.out.ns (x := (.slice xo 1 xc, [2])) (by simp)).keep hk)
  go_wp2_with (go_at_call 18; refine (num_any _ _).mono ?_; rintro e wx ⟨rfl, hw⟩; obtain rfl := hw.symm)
  refine (ints_y _ _ _ _ _ [2] (N1.out _ (Kp.alloc _ _ _)) (ns_l1 w21 2) (by decide)).mono ?_
  rintro e z1 ⟨rfl, hk⟩
  have K1 := hid ((Kp.alloc w21 (.cells #[.int .i64 2] 3) []).trans hk)
  clear hk
  go_wp2_with fail
  refine (ints_y _ _ _ _ _ [3] (N2.out _ (K1.out.trans (Kp.alloc _ _ _))) (ns_l1 z1 3) (by decide)).mono ?_
  rintro e z2 ⟨rfl, hk⟩
  have K2 := hid ((K1.out.trans (Kp.alloc z1 (.cells #[.int .i64 3] 3) [])).trans hk)
  clear hk
  go_wp2_with fail
  refine (ints_y _ _ _ _ _ [3] (N3.out _ (K2.out.trans (Kp.alloc _ _ _))) (ns_l1 z2 3) (by decide)).mono ?_
  rintro e z3 ⟨rfl, hk⟩
  have K3 := hid ((K2.out.trans (Kp.alloc z2 (.cells #[.int .i64 3] 3) [])).trans hk)
  clear hk
  go_wp2_with fail
  refine (ints_y _ _ _ _ _ [2] (N4.out _ (K3.out.trans (Kp.alloc _ _ _))) (ns_l1 z3 2) (by decide)).mono ?_
  rintro e z4 ⟨rfl, hk⟩
  have K4 := hid ((K3.out.trans (Kp.alloc z3 (.cells #[.int .i64 2] 3) [])).trans hk)
  clear hk
  go_wp2_with (go_at_call 18; refine (num_any _ _).mono ?_; rintro e wx ⟨rfl, hw⟩; obtain rfl := hw.symm)
  go_ret
  exact ⟨rfl, H.out.kp.trans K4.out⟩
end Go.Proofs.Ytcfjlmkeomiiaaa
