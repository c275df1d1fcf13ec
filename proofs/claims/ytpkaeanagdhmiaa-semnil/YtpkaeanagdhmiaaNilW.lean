/- SemNil's walk. -/
import Derived.Test.YtpkaeanagdhmiaaKn
namespace Go.Proofs.Ytpkaeanagdhmiaa
open Go.RowKit Go.Shelf Go.Lib Go.Sort Go.Maps
attribute [local go_sem] Oper.semAt_some

set_option maxRecDepth 100000 in
set_option maxHeartbeats 4000000 in
/-- nothing: of what is not there. -/
theorem nothing_any (w : World) (p q : Option Addr) (hp : Zs 74 w p) (hq : Zs 76 w q) : Calls Try.prog 35 #[.pointer p, .pointer q] w fun e w' => e = .returned (.bool true) ∧ Kp w w' [] := by
  have HP := hid hp
  have HQ := hid hq
  clear hp hq
  go_enter Try.func35, Try.ntmps35
  go_wp2_with (first
    | (go_at_call 10; refine (num_any _ _).mono ?_; rintro e wx ⟨rfl, hw⟩; obtain rfl := hw.symm)
    | (go_at_call 28; refine (swait_no w p 0 1 HP.out).mono ?_; rintro e wx ⟨rfl, hw⟩; obtain rfl := hw.symm)
    | (go_at_call 30; refine (spost_no w p HP.out).mono ?_; rintro e wx ⟨rfl, hw⟩; obtain rfl := hw.symm)
    | (go_at_call 33; refine (bwait_no w q 0 1 HQ.out).mono ?_; rintro e wx ⟨rfl, hw⟩; obtain rfl := hw.symm)
    | (go_at_call 29; refine (stry_no w p [] [] HP.out.sv).mono ?_; rintro e wx ⟨rfl, hw⟩; obtain rfl := hw.symm)
    | (go_at_call 31; refine (sleave_no w p 0 HP.out).mono ?_; rintro e wx ⟨rfl, hw⟩; obtain rfl := hw.symm)
    | (go_at_call 32; refine (schange_no w p 0 1 HP.out).mono ?_; rintro e wx ⟨rfl, hw⟩; obtain rfl := hw.symm)
    | (go_at_call 34; refine (bleave_no w q 0 HQ.out).mono ?_; rintro e wx ⟨rfl, hw⟩; obtain rfl := hw.symm)
    | (go_at_call 48; refine (bchange_no w q 0 1 HQ.out).mono ?_; rintro e wx ⟨rfl, hw⟩; obtain rfl := hw.symm)
    | (go_at_call 13; refine (sval w p [] 0 [] HP.out.sv).mono ?_; rintro e wx ⟨rfl, hw⟩; obtain rfl := hw.symm)
    | (go_at_call 14; refine (slen w p [] 0 [] HP.out.sv).mono ?_; rintro e wx ⟨rfl, hw⟩; obtain rfl := hw.symm))
  refine (slist w p [] 0 [] HP.out.sv).mono ?_
  rintro e w1 ⟨x, rfl, hx, hk⟩
  rw [ord_nil] at hx
  obtain ⟨ao, cap, rfl⟩ := hx.slice
  have P1 := hid (HP.out.keep hk)
  have Q1 := hid (HQ.out.keep hk)
  have K1 := hid hk
  clear hx hk
  simp only [List.map_nil, List.length_nil]
  go_wp2_with (first
    | (go_at_call 21; refine (bval w1 q [] 0 [] Q1.out.sv).mono ?_; rintro e wx ⟨rfl, hw⟩; obtain rfl := hw.symm)
    | (go_at_call 22; refine (blen w1 q [] 0 [] Q1.out.sv).mono ?_; rintro e wx ⟨rfl, hw⟩; obtain rfl := hw.symm))
  refine (blist w1 q [] 0 [] Q1.out.sv).mono ?_
  rintro e w2 ⟨x, rfl, hx, hk⟩
  rw [ord_nil] at hx
  obtain ⟨ao, cap, rfl⟩ := hx.slice
  have P2 := hid (P1.out.keep hk)
  have Q2 := hid (Q1.out.keep hk)
  have K2 := hid (K1.out.trans hk)
  clear hx hk
  simp only [List.map_nil, List.length_nil]
  go_wp2_with (first
    | (go_at_call 42; refine (scopy_no w2 p P2.out).mono ?_; rintro e wx ⟨rfl, hw⟩; obtain rfl := hw.symm)
    | (go_at_call 49; refine (bcopy_no w2 q Q2.out).mono ?_; rintro e wx ⟨rfl, hw⟩; obtain rfl := hw.symm))
  refine (ssame w2 p none [] [] 0 0 [] [] P2.out.sv (Zs.sv (.inl rfl))).mono ?_
  rintro e w3 ⟨rfl, hk⟩
  have Q3 := hid (Q2.out.keep hk)
  have K3 := hid (K2.out.trans hk)
  clear hk
  rw [show (decide ((0 : Int) = 0) && (decide (([] : List Nat).isEmpty = ([] : List Nat).isEmpty) && decide (([] : List Dl) = []))) = true from by decide]
  go_wp2_with fail
  refine (bsame w3 q none [] [] 0 0 [] [] Q3.out.sv (Zs.sv (.inl rfl))).mono ?_
  rintro e w4 ⟨rfl, hk⟩
  have K4 := hid (K3.out.trans hk)
  clear hk
  rw [show (decide ((0 : Int) = 0) && (decide (([] : List Nat).isEmpty = ([] : List Nat).isEmpty) && decide (([] : List Dl) = []))) = true from by decide]
  go_wp2
  go_ret
  exact ⟨rfl, K4.out⟩
theorem ns_same {W W' : World} {base : Nat} {v : Value} {l : List Int} (h : Ns W base v l) (hk : Kp W W' []) : Ns W' base v l := h.keep hk
set_option maxRecDepth 100000 in
set_option maxHeartbeats 4000000 in
theorem nil_walk (w : World) : Calls Try.prog 7 #[] w fun e w' => e = .returned (.bool true) ∧ Kp w w' [] := by
  go_enter Try.func7, Try.ntmps7
  go_wp2_with fail
  refine (snew w 32767 (by decide) (by decide)).mono ?_
  rintro e w1 ⟨sb, R1, rfl, h1, h2, h3⟩
  have H1 := hid (And.intro h1 (And.intro h2 h3))
  clear h1 h2 h3
  go_wp2_with fail
  refine (spost w1 sb R1 32767 [] H1.out.1 ⟨by decide, by decide, fun _ => rfl⟩).mono ?_
  rintro e w2 ⟨rfl, hT⟩
  obtain ⟨e1, e2, e3, e4⟩ := po_full
  rw [e1, e2]
  rw [e3, e4] at hT
  obtain ⟨R2, s2, n2, k2⟩ := hT
  have H2 := hid (show Sm 74 w2 sb R2 32767 [] ∧ (∀ k ∈ R2, w.heap.size ≤ k) ∧ Kp w w2 [] from ⟨s2, fun k hk => by
    rcases n2 k hk with q | q
    · exact H1.out.2.1 k q
    · have := H1.out.2.2.size; omega, H1.out.2.2.past k2 (fun k hk hl => by have := H1.out.2.1 k hk; omega)⟩)
  clear e1 e2 e3 e4 s2 n2 k2 H1
  go_wp2_with fail
  refine (snew_no w2 (-1) (.inl (by decide))).mono ?_
  rintro e wx ⟨rfl, hw⟩; obtain rfl := hw.symm
  go_wp2_with fail
  refine (bnew w2 1 (by decide) (by decide)).mono ?_
  rintro e w3 ⟨bb, RB, rfl, h1, h2, h3⟩
  have H := hid (kw_new H2.out.1 H2.out.2.1 H2.out.2.2 h1 h2 h3)
  clear h1 h2 h3 H2
  go_wp2_with fail
  refine (H.out.bwait ⟨by decide, by decide, by decide⟩ 7 1 0 [7] [] (by decide +kernel) (by unfold baO; rw [if_pos (by decide), ord_nil]; rfl) (by decide +kernel)).mono ?_
  rintro e w4 ⟨lo, lc, rfl, hl⟩
  have H := hid hl
  clear hl
  go_wp2_with fail
  refine (H.out.bwait ⟨by decide, by decide, by decide⟩ 16 1 2 [] [] (by decide +kernel) (by unfold baO; rw [if_neg (by decide)]) (by decide +kernel)).mono ?_
  rintro e w5 ⟨mo, mc, rfl, hl⟩
  have H := hid hl
  clear hl
  go_wp2_with fail
  refine (H.out.wait ⟨by decide, by decide, fun _ => rfl⟩ 0 32 false 2 32767 [] (by decide +kernel) (by decide +kernel) (by decide +kernel) (by decide +kernel)).mono ?_
  rintro e w6 ⟨rfl, hl⟩
  have H := hid hl
  clear hl
  go_wp2_with fail
  refine (H.out.leave 0 6 [] (by decide +kernel) (by decide +kernel)).mono ?_
  rintro e w7 ⟨rfl, hl⟩
  have H := hid hl
  clear hl
  go_wp2_with fail
  refine (H.out.bleave 7 6 [] (by decide +kernel) (by decide +kernel)).mono ?_
  rintro e w8 ⟨rfl, hl⟩
  have H := hid hl
  clear hl
  have NL := hid (fun (z : World) (hk : Kp w8 z []) => (H.out.ns (x := (.slice lo 1 lc, [7])) (by simp)).keep hk)
  go_wp2_with (first
    | (go_at_call 10; refine (num_any _ _).mono ?_; rintro e wx ⟨rfl, hw⟩; obtain rfl := hw.symm)
    | (go_at_call 13; refine H.out.val.mono ?_; rintro e wx ⟨rfl, hw⟩; obtain rfl := hw.symm))
  refine (ints_any _ _ _ _ _ [7] [7] (NL.out _ (Kp.alloc _ _ _)) (ns_l1 w8 7) (by decide)).mono ?_
  rintro e z1 ⟨rfl, hk⟩
  have K1 := hid ((Kp.alloc w8 (.cells #[.int .i64 7] 3) []).trans hk)
  clear hk
  rw [show decide (([7] : List Int) = [7]) = true from by decide]
  go_wp2_with (go_at_call 10; refine (num_any _ _).mono ?_; rintro e wx ⟨rfl, hw⟩; obtain rfl := hw.symm)
  refine (nothing_any z1 none none (.inl rfl) (.inl rfl)).mono ?_
  rintro e z2 ⟨rfl, hk⟩
  have K2 := hid (K1.out.trans hk)
  clear hk
  have ka := Kp.alloc z2 (.cells #[.pointer none, .int .i64 0] 74) []
  have kb := Kp.alloc (z2.alloc (.cells #[.pointer none, .int .i64 0] 74)) (.cells #[.pointer none, .int .i64 0] 76) []
  have ZA := hid (show Zs 74 ((z2.alloc (.cells #[.pointer none, .int .i64 0] 74)).alloc (.cells #[.pointer none, .int .i64 0] 76)) (some ⟨z2.heap.size, 0, none⟩) from Zs.keep (.inr ⟨_, rfl, heap_alloc_new z2 _⟩) kb)
  have ZB := hid (show Zs 76 ((z2.alloc (.cells #[.pointer none, .int .i64 0] 74)).alloc (.cells #[.pointer none, .int .i64 0] 76)) (some ⟨z2.heap.size + 1, 0, none⟩) from .inr ⟨_, rfl, by
    have := heap_alloc_new (z2.alloc (.cells #[.pointer none, .int .i64 0] 74)) (.cells #[.pointer none, .int .i64 0] 76)
    rw [show (z2.alloc (.cells #[.pointer none, .int .i64 0] 74)).heap.size = z2.heap.size + 1 by simp] at this
    exact this⟩)
  have K3 := hid ((K2.out.trans ka).trans kb)
  clear ka kb
  go_wp2_with fail
  refine (nothing_any _ _ _ ZA.out ZB.out).mono ?_
  rintro e z3 ⟨rfl, hk⟩
  have K4 := hid (K3.out.trans hk)
  clear hk
  obtain ⟨RS, hs, -⟩ := (H.out.same K4.out).s
  have hse : RS.isEmpty = false := by
    obtain ⟨-, wb, R0, rfl, -⟩ := hs
    rfl
  have HS := hid (ssame z3 _ none RS [] 32767 0 [] [] hs.sv (Zs.sv (.inl rfl)))
  clear hs hse
  go_wp2_with fail
  refine HS.out.mono ?_
  rintro e z4 ⟨rfl, hk⟩
  have K5 := hid (K4.out.trans hk)
  clear hk
  rw [show decide ((32767 : Int) = 0) = false from by decide, Bool.false_and]
  obtain ⟨RB, hs, -⟩ := (H.out.same K5.out).b
  have HB := hid (bsame z4 _ none RB [] 1 0 [] [] hs.sv (Zs.sv (.inl rfl)))
  clear hs
  go_wp2_with fail
  refine HB.out.mono ?_
  rintro e z5 ⟨rfl, hk⟩
  have K6 := hid (K5.out.trans hk)
  clear hk
  rw [show decide ((1 : Int) = 0) = false from by decide, Bool.false_and]
  go_wp2_with fail
  refine (known_any z5).mono ?_
  rintro e z6 ⟨rfl, hk⟩
  have K7 := hid (K6.out.trans hk)
  clear hk
  go_wp2
  go_ret
  exact ⟨rfl, H.out.kp.trans K7.out⟩
end Go.Proofs.Ytpkaeanagdhmiaa
