/- LockNil's walk. -/
import Derived.Test.YtcfjlmkeomiiaaaLz
import Derived.Test.YtcfjlmkeomiiaaaCy
import Derived.Test.YtcfjlmkeomiiaaaSq
import Derived.Test.YtcfjlmkeomiiaaaKn
namespace Go.Proofs.Ytcfjlmkeomiiaaa
open Go.RowKit Go.Shelf Go.Lib Go.Sort Go.Maps
attribute [local go_sem] Oper.semAt_some

set_option maxRecDepth 100000 in
set_option maxHeartbeats 4000000 in
/-- nothing: of what is not there. -/
theorem nothing_any (w : World) (p : Option Addr) (h : Zl w p) : Calls Try.prog 26 #[.pointer p] w fun e w' => e = .returned (.bool true) ∧ Kp w w' [] := by
  have HP := hid (fun (z : World) (hk : Kp w z []) => h.keep hk)
  clear h
  go_enter Try.func26, Try.ntmps26
  go_wp2_with fail
  refine (lread_no _ p (HP.out _ (Kp.refl _ _))).mono ?_
  rintro e w1 ⟨rfl, hk⟩
  have K1 := hid (hk)
  clear hk
  go_wp2_with fail
  refine (lwrite_no _ p (HP.out _ K1.out)).mono ?_
  rintro e w2 ⟨rfl, hk⟩
  have K2 := hid (K1.out.trans hk)
  clear hk
  go_wp2_with fail
  refine (ltryR_no _ p (HP.out _ K2.out)).mono ?_
  rintro e w3 ⟨rfl, hk⟩
  have K3 := hid (K2.out.trans hk)
  clear hk
  go_wp2_with fail
  refine (ltryW_no _ p (HP.out _ K3.out)).mono ?_
  rintro e w4 ⟨rfl, hk⟩
  have K4 := hid (K3.out.trans hk)
  clear hk
  go_wp2_with fail
  refine (lunlock_no _ p (HP.out _ K4.out)).mono ?_
  rintro e w5 ⟨rfl, hk⟩
  have K5 := hid (K4.out.trans hk)
  clear hk
  go_wp2_with fail
  refine (lleave_no _ p (HP.out _ K5.out)).mono ?_
  rintro e wx ⟨rfl, hw⟩; obtain rfl := hw.symm
  go_wp2_with fail
  refine (lchange_no _ p (HP.out _ K5.out)).mono ?_
  rintro e wx ⟨rfl, hw⟩; obtain rfl := hw.symm
  have HWr := hid (lwriter w5 p [] newL (HP.out _ K5.out).lv)
  have HWt := hid (lwaiting w5 p [] newL 0 (HP.out _ K5.out).lv ⟨by decide, by decide⟩)
  have HRd := hid (lreads w5 p [] newL 0 (HP.out _ K5.out).lv ⟨by decide, by decide⟩)
  have HHd := hid (lheld w5 p [] newL (HP.out _ K5.out).lv)
  rw [show wrV newL = 0 from by decide, show wrI newL = false from by decide] at HWr
  rw [show hasP newL.q 0 = false from rfl, show hasP newL.r 0 = false from rfl] at HWt
  rw [show cntC newL.c 0 = 0 from by decide] at HRd
  rw [show heldL newL = false from by decide] at HHd
  go_wp2_with fail
  refine (HWr.out).mono ?_
  rintro e wx ⟨rfl, hw⟩; obtain rfl := hw.symm
  go_wp2_with fail
  refine (HWt.out).mono ?_
  rintro e wx ⟨rfl, hw⟩; obtain rfl := hw.symm
  go_wp2_with (first
    | (go_at_call 18; refine (num_any _ _).mono ?_; rintro e wx ⟨rfl, hw⟩; obtain rfl := hw.symm)
    | (go_at_call 38; refine HRd.out.mono ?_; rintro e wx ⟨rfl, hw⟩; obtain rfl := hw.symm)
    | (go_at_call 34; refine HHd.out.mono ?_; rintro e wx ⟨rfl, hw⟩; obtain rfl := hw.symm))
  refine (lreaders w5 p [] newL (HP.out _ K5.out).lv).mono ?_
  rintro e w6 ⟨x, rfl, hx, hk⟩
  rw [show newL.r = [] from rfl, ord_nil] at hx
  obtain ⟨ao, cap, rfl⟩ := hx.slice
  have K6 := hid (K5.out.trans hk)
  clear hx hk
  simp only [List.map_nil, List.length_nil]
  go_wp2_with fail
  refine (lwriters w6 p [] newL (HP.out _ K6.out).lv).mono ?_
  rintro e w7 ⟨x, rfl, hx, hk⟩
  rw [show newL.q = [] from rfl, ord_nil] at hx
  obtain ⟨ao, cap, rfl⟩ := hx.slice
  have K7 := hid (K6.out.trans hk)
  clear hx hk
  simp only [List.map_nil, List.length_nil]
  go_wp2_with fail
  refine (lcopy_no _ p (HP.out _ K7.out)).mono ?_
  rintro e wx ⟨rfl, hw⟩; obtain rfl := hw.symm
  go_wp2_with fail
  refine (lsame_nil _ p (HP.out _ K7.out)).mono ?_
  rintro e wx ⟨rfl, hw⟩; obtain rfl := hw.symm
  go_wp2
  go_ret
  exact ⟨rfl, K7.out⟩
/-- As often as that. -/
def mI (i : Nat) : Lk := ⟨-1, fun k => if k = 3 then (i : Int) else 0, [], []⟩
theorem mI_ask {i : Nat} (hi : i < 32767) : askE (mI i) 3 1 false = 0 := by
  have h1 : decide ((32767 : Int) ≤ (mI i).c 3) = false := by simp [mI]; omega
  unfold askE
  rw [if_pos (by decide)]
  rw [show hasP (mI i).r 3 = false from rfl, show hasP (mI i).q 3 = false from rfl, show decide ((mI i).w = 3) = false from rfl, show ((3 : Int).toNat) = 3 from rfl, h1]
  rfl
theorem mI_may (i : Nat) : mayk (mI i) 3 1 = true := by
  unfold mayk
  rw [show fBk (mI i).q = false from (show fBk [] = false by decide +kernel), show decide ((mI i).w < 0) = true from rfl]
  simp
theorem mI_B {i : Nat} (hi : i < 32767) : rdBk (mI i) 3 1 = true := by unfold rdBk; rw [mI_ask hi, mI_may]; rfl
theorem mI_M {i : Nat} (hi : i < 32767) : sameB (rdMk (mI i) 3 1 false) (mI (i + 1)) = true := by
  unfold rdMk
  rw [if_pos (mI_ask hi), if_pos (mI_may i)]
  refine same_le.2 ⟨rfl, fun t ht => ?_, rfl, rfl⟩
  show updC (mI i).c 3 ((mI i).c 3 + 1) t = (mI (i + 1)).c t
  by_cases e : t = 3
  · subst e
    simp [updC, mI]
  · simp [updC, mI, e]
theorem Kl.congr {w0 W : World} {lb : Nat} {M M' : Lk} {ks : List (Value × List Int)} (h : Kl w0 W lb M ks) (e : Le M M') : Kl w0 W lb M' ks := by
  obtain ⟨hM, R, h1, h2⟩ := h
  exact ⟨hM.congr e, R, h1.congr e, h2⟩
theorem mI_0 : Le newL (mI 0) := ⟨rfl, fun t _ => by simp [newL, mI], rfl, rfl⟩
theorem mI_n : Le (mI 32767) (mkL (-1) [(3, 32767)] [] []) := ⟨rfl, fun t _ => by
  by_cases e : t = 3
  · subst e; simp [mI, mkL]
  · have e3 : ¬ (3 : Nat) = t := by omega
    simp [mI, mkL, e, e3], rfl, rfl⟩
theorem ns_l2 (w : World) (a b : Int) : Ns (w.alloc (.cells #[.int .i64 a, .int .i64 b] 3)) w.heap.size (.slice (some ⟨w.heap.size, 0, none⟩) 2 2) [a, b] :=
  ⟨rfl, .inr ⟨w.heap.size, 2, _, rfl, Nat.le_refl _, heap_alloc_new w _, Nat.le_refl _, by unfold maxLen; omega, rfl, rfl⟩⟩
theorem Kl.nonil {w0 W : World} {lb : Nat} {M : Lk} {ks : List (Value × List Int)} (h : Kl w0 W lb M ks) : Calls Try.prog 12 #[.pointer (some ⟨lb, 0, none⟩), .pointer none] W fun e w' => e = .returned (.bool false) ∧ w' = W := by
  obtain ⟨hM, R, h1, h2⟩ := h
  exact lsame_no W lb R M h1
set_option maxRecDepth 100000 in
set_option maxHeartbeats 4000000 in
theorem nil_walk (w : World) : Calls Try.prog 6 #[] w fun e w' => e = .returned (.bool true) ∧ Kp w w' [] := by
  go_enter Try.func6, Try.ntmps6
  go_wp2_with fail
  refine (kl_new w).mono ?_
  rintro e w1 ⟨lb, rfl, hl⟩
  have H0 := hid (hl.congr mI_0)
  clear hl
  go_wp2_with fail
  go_loopw [2] (fun v wr => ∃ i : Nat, i ≤ 32767 ∧ v = .int .i64 i ∧ Hid (Kl w wr lb (mI i) [])) (fun v _ => 32767 - (intOf v).toNat)
  case atStart => exact ⟨0, by omega, rfl, H0⟩
  case round =>
    obtain ⟨i, hi, rfl, hK⟩ := hrel
    clear H0
    by_cases hlt : i < 32767
    · have hltI : (i : Int) < 32767 := by omega
      have HR := hid (hK.out.read 3 1 true 0 (mI (i + 1)) (mI_B hlt) (mI_ask hlt) (mI_M hlt))
      clear hK
      go_wp2_with fail
      refine HR.out.mono ?_
      rintro e w2 ⟨rfl, hl⟩
      have H := hid hl
      clear hl HR
      go_wp2_with (go_at_call 18; refine (num_any _ _).mono ?_; rintro e wx ⟨rfl, hw⟩; obtain rfl := hw.symm)
      go_roundw
      case rel => exact ⟨i + 1, by omega, by simp, H⟩
      case measure => simp [intOf]; omega
    · have hi2 : i = 32767 := by omega
      subst hi2
      have H := hid (hK.out.congr mI_n)
      clear hK hlt hi
      go_wp2_with fail
      refine (H.out.read 3 1 false 5 (mkL (-1) [(3, 32767)] [] []) (by decide +kernel) (by decide +kernel) (by decide +kernel)).mono ?_
      rintro e w2 ⟨rfl, hl⟩
      have H := hid hl
      clear hl
      go_wp2_with fail
      refine (H.out.tryR 3 1 false 5 (mkL (-1) [(3, 32767)] [] []) (by decide +kernel) (by decide +kernel) (by decide +kernel)).mono ?_
      rintro e w3 ⟨rfl, hl⟩
      have H := hid hl
      clear hl
      go_wp2_with fail
      refine (H.out.write 3 1 false 7 (mkL (-1) [(3, 32767)] [] []) (by decide +kernel) (by decide +kernel) (by decide +kernel)).mono ?_
      rintro e w4 ⟨rfl, hl⟩
      have H := hid hl
      clear hl
      go_wp2_with fail
      refine (H.out.read 16 1 false 2 (mkL (-1) [(3, 32767)] [] []) (by decide +kernel) (by decide +kernel) (by decide +kernel)).mono ?_
      rintro e w5 ⟨rfl, hl⟩
      have H := hid hl
      clear hl
      go_wp2_with fail
      refine (H.out.write 0 0 false 2 (mkL (-1) [(3, 32767)] [] []) (by decide +kernel) (by decide +kernel) (by decide +kernel)).mono ?_
      rintro e w6 ⟨rfl, hl⟩
      have H := hid hl
      clear hl
      go_wp2_with fail
      refine (H.out.leave 3 ⟨by decide, by decide⟩ [] 6 (mkL (-1) [(3, 32767)] [] []) (by decide +kernel) (by decide +kernel) (by decide +kernel)).mono ?_
      rintro e w7 ⟨fo, fc, rfl, hl⟩
      have H := hid hl
      clear hl
      go_wp2_with fail
      refine (H.out.leave 16 ⟨by decide, by decide⟩ [] 2 (mkL (-1) [(3, 32767)] [] []) (by decide +kernel) (by decide +kernel) (by decide +kernel)).mono ?_
      rintro e w8 ⟨go, gc, rfl, hl⟩
      have H := hid hl
      clear hl
      go_wp2_with fail
      refine (H.out.change 3 32 ⟨by decide, by decide⟩ [] 2 (mkL (-1) [(3, 32767)] [] []) (by decide +kernel) (by decide +kernel) (by decide +kernel)).mono ?_
      rintro e w9 ⟨ho, hc, rfl, hl⟩
      have H := hid hl
      clear hl
      go_wp2_with fail
      refine (kl_new w9).mono ?_
      rintro e w10 ⟨mb, rfl, hl⟩
      have G := hid hl
      clear hl
      go_wp2_with fail
      refine (G.out.write 0 1 true 0 (mkL (0) [] [] []) (by decide +kernel) (by decide +kernel) (by decide +kernel)).mono ?_
      rintro e w11 ⟨rfl, hl⟩
      have G := hid hl
      clear hl
      go_wp2_with fail
      refine (G.out.read 1 9 false 0 (mkL (0) [] [(1, 9)] []) (by decide +kernel) (by decide +kernel) (by decide +kernel)).mono ?_
      rintro e w12 ⟨rfl, hl⟩
      have G := hid hl
      clear hl
      go_wp2_with fail
      refine (G.out.read 2 5 false 0 (mkL (0) [] [(1, 9), (2, 5)] []) (by decide +kernel) (by decide +kernel) (by decide +kernel)).mono ?_
      rintro e w13 ⟨rfl, hl⟩
      have G := hid hl
      clear hl
      go_wp2_with fail
      refine (G.out.write 3 5 false 0 (mkL (0) [] [(1, 9), (2, 5)] [(3, 5)]) (by decide +kernel) (by decide +kernel) (by decide +kernel)).mono ?_
      rintro e w14 ⟨rfl, hl⟩
      have G := hid hl
      clear hl
      go_wp2_with fail
      refine (G.out.read 4 6 false 0 (mkL (0) [] [(1, 9), (2, 5), (4, 6)] [(3, 5)]) (by decide +kernel) (by decide +kernel) (by decide +kernel)).mono ?_
      rintro e w15 ⟨rfl, hl⟩
      have G := hid hl
      clear hl
      go_wp2_with fail
      refine (G.out.unlock 0 [1, 4] 0 (mkL (-1) [(1, 1), (4, 1)] [(2, 5)] [(3, 5)]) (by decide +kernel) (by decide +kernel) (by decide +kernel)).mono ?_
      rintro e w16 ⟨io, ic, rfl, hl⟩
      have G := hid hl
      clear hl
      go_wp2_with fail
      refine (G.out.unlock 1 [] 0 (mkL (-1) [(4, 1)] [(2, 5)] [(3, 5)]) (by decide +kernel) (by decide +kernel) (by decide +kernel)).mono ?_
      rintro e w17 ⟨qo, qc, rfl, hl⟩
      have G := hid hl
      clear hl
      go_wp2_with fail
      refine (G.out.unlock 4 [3] 0 (mkL (3) [] [(2, 5)] []) (by decide +kernel) (by decide +kernel) (by decide +kernel)).mono ?_
      rintro e w18 ⟨jo, jc, rfl, hl⟩
      have G := hid hl
      clear hl
      go_wp2_with fail
      refine (G.out.unlock 3 [2] 0 (mkL (-1) [(2, 1)] [] []) (by decide +kernel) (by decide +kernel) (by decide +kernel)).mono ?_
      rintro e w19 ⟨ko, kc, rfl, hl⟩
      have G := hid hl
      clear hl
      have N1 := hid (fun (z : World) (hk : Kp w19 z []) => (G.out.ns (x := (.slice io 2 ic, [1, 4])) (by simp)).keep hk)
      have N2 := hid (fun (z : World) (hk : Kp w19 z []) => (G.out.ns (x := (.slice jo 1 jc, [3])) (by simp)).keep hk)
      have N3 := hid (fun (z : World) (hk : Kp w19 z []) => (G.out.ns (x := (.slice ko 1 kc, [2])) (by simp)).keep hk)
      have HL := hid (H.out.same G.out.kp)
      clear H G
      go_wp2_with (go_at_call 18; refine (num_any _ _).mono ?_; rintro e wx ⟨rfl, hw⟩; obtain rfl := hw.symm)
      refine (ints_y _ _ _ _ _ [1, 4] (N1.out _ (Kp.alloc _ _ _)) (ns_l2 w19 1 4) (by decide)).mono ?_
      rintro e z1 ⟨rfl, hk⟩
      have K1 := hid ((Kp.alloc w19 (.cells #[.int .i64 1, .int .i64 4] 3) []).trans hk)
      clear hk
      go_wp2_with fail
      refine (ints_y _ _ _ _ _ [3] (N2.out _ (K1.out.trans (Kp.alloc _ _ _))) (ns_l1 z1 3) (by decide)).mono ?_
      rintro e z2 ⟨rfl, hk⟩
      have K2 := hid ((K1.out.trans (Kp.alloc z1 (.cells #[.int .i64 3] 3) [])).trans hk)
      clear hk
      go_wp2_with fail
      refine (ints_y _ _ _ _ _ [2] (N3.out _ (K2.out.trans (Kp.alloc _ _ _))) (ns_l1 z2 2) (by decide)).mono ?_
      rintro e z3 ⟨rfl, hk⟩
      have K3 := hid ((K2.out.trans (Kp.alloc z2 (.cells #[.int .i64 2] 3) [])).trans hk)
      clear hk
      go_wp2_with fail
      refine (nothing_any z3 none (.inl rfl)).mono ?_
      rintro e z4 ⟨rfl, hk⟩
      have K4 := hid (K3.out.trans hk)
      clear hk
      have ka := Kp.alloc z4 (.cells #[.int .i64 0, .map none, .pointer none, .pointer none] 57) []
      have ZA := hid (show Zl (z4.alloc (.cells #[.int .i64 0, .map none, .pointer none, .pointer none] 57)) (some ⟨z4.heap.size, 0, none⟩) from .inr ⟨_, rfl, heap_alloc_new z4 _⟩)
      have KA := hid (K4.out.trans ka)
      clear ka
      go_wp2_with fail
      refine (nothing_any _ _ ZA.out).mono ?_
      rintro e z5 ⟨rfl, hk⟩
      have K5 := hid (KA.out.trans hk)
      clear hk
      go_wp2_with fail
      refine (HL.out.same K5.out).nonil.mono ?_
      rintro e wx ⟨rfl, hw⟩; obtain rfl := hw.symm
      go_wp2_with fail
      refine (known_any z5).mono ?_
      rintro e z6 ⟨rfl, hk⟩
      have K6 := hid (K5.out.trans hk)
      clear hk
      go_wp2
      go_ret
      exact ⟨rfl, HL.out.kp.trans K6.out⟩
end Go.Proofs.Ytcfjlmkeomiiaaa
