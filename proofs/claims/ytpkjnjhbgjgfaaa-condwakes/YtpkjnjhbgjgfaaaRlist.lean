/- The reference: List, First, Take, Clear, Same. -/
import Derived.Test.YtpkjnjhbgjgfaaaRord
import Derived.BigQuiet
namespace Go.Proofs.Ytpkjnjhbgjgfaaa
open Go.RowKit Go.Shelf Go.Lib Go.Sort Go.Maps

set_option maxRecDepth 100000 in
set_option maxHeartbeats 1000000 in
theorem rlist_any (w : World) (rb : Nat) (L : List Dl) (h : Rf w rb L) (hok : okL L) :
    Calls Try.prog 35 #[.pointer (some ⟨rb, 0, none⟩)] w fun e w' => ∃ v, e = .returned v ∧ Ns w' w.heap.size v ((ordL L).map (·.1)) ∧ Kp w w' [] := by
  have HO := hid (rorder_any w rb L h hok)
  have hlen : (ordL L).length ≤ 16 := by rw [ord_len hok]; exact hok.len
  generalize ordL L = Z at HO hlen ⊢
  clear h hok
  go_enter Try.func35, Try.ntmps35
  go_wp2_with fail
  refine HO.out.mono ?_
  rintro e w1 ⟨v, rfl, hd, hk⟩
  obtain ⟨ao, cap, hv⟩ := hd.slice
  obtain ⟨N, hN⟩ : ∃ N, Z.length = N := ⟨_, rfl⟩
  rw [hN] at hv hlen
  subst hv
  have HN := hid hN
  have H1 := hid (And.intro hd hk)
  clear hd hk hN
  go_wp2_with fail
  go_loopw [4, 5] (fun vd vi wr => ∃ (i m cp : Nat) (a1 : Option Addr), i ≤ N ∧ vi = .int .i64 i ∧ vd = .slice a1 m cp ∧ Hid (Ns wr w1.heap.size (.slice a1 m cp) ((Z.take i).map (·.1)) ∧ Kp w1 wr [])) (fun _ vi _ => N - (intOf vi).toNat)
  case atStart => exact ⟨0, 0, 0, none, by omega, rfl, rfl, hid ⟨by simpa using Ns.nil _ _, Kp.refl _ _⟩⟩
  case round =>
    obtain ⟨i, m1, cp1, a1, hi, rfl, rfl, hR⟩ := hrel
    by_cases hlt : i < N
    · have hltI : (i : Int) < N := by omega
      have hil : i < Z.length := by have := HN.out; omega
      obtain ⟨x1, x2, hx⟩ : ∃ x1 x2, Z[i]! = (x1, x2) := ⟨Z[i]!.1, Z[i]!.2, rfl⟩
      obtain ⟨g, rfl, c1, c2, -, -⟩ := (H1.out.1.keep hR.out.2).at hil hx
      have kk := Kp.alloc wr (.cells #[.int .i64 x1] 3) []
      have R1 := hid (And.intro (hR.out.1.keep kk) (hR.out.2.trans kk))
      have HT := hid (show (Z.take (i + 1)).map (·.1) = (Z.take i).map (·.1) ++ [x1] by rw [take_get hil, hx, List.map_append]; rfl)
      have HB := hid (show ((Z.take i).map (·.1)).length ≤ 100000 by simp; omega)
      clear kk hx hR
      go_wp2_with (refine wpList_pushI rfl (.tmp 14) (.tmp 20) rfl w1.heap.size (.slice a1 m1 cp1) ((Z.take i).map (·.1)) x1 _ rfl R1.out.1 rfl (by simp) HB.out R1.out.2.size ?_; intro v3 w3 hN3 hG3; obtain ⟨a3, c3, hv3⟩ := hN3.slice; have K3 := hid (And.intro hN3 (grown_own R1.out.1 hG3 R1.out.2 (Nat.le_refl _))); obtain ⟨m3, hm3⟩ : ∃ m3, ((Z.take i).map (·.1) ++ [x1]).length = m3 := ⟨_, rfl⟩; rw [hm3] at hv3; subst hv3; clear hN3 hG3 hm3)
      go_roundw
      case rel =>
        refine ⟨i + 1, m3, c3, a3, by omega, by simp, rfl, hid ?_⟩
        rw [HT.out]
        exact K3.out
      case measure => simp [intOf]; omega
    · have hltI : ¬ (i : Int) < N := by omega
      have HF := hid (show Ns wr w.heap.size (.slice a1 m1 cp1) (Z.map (·.1)) ∧ Kp w wr [] by
        have h1 := hR.out
        rw [List.take_of_length_le (by have := HN.out; omega)] at h1
        exact ⟨h1.1.low H1.out.2.size, H1.out.2.trans h1.2⟩)
      clear hR
      go_wp2
      go_ret
      exact ⟨_, rfl, HF.out.1, HF.out.2⟩
set_option maxRecDepth 100000 in
theorem rfirst_any (w : World) (rb : Nat) (L : List Dl) (h : Rf w rb L) (hok : okL L) :
    Calls Try.prog 49 #[.pointer (some ⟨rb, 0, none⟩)] w fun e w' => e = .returned (.tuple #[.int .i64 (fstT L), .bool (fstB L)]) ∧ Kp w w' [] := by
  have HO := hid (rorder_any w rb L h hok)
  unfold fstT fstB
  generalize ordL L = Z at HO ⊢
  clear h hok
  go_enter Try.func49, Try.ntmps49
  go_wp2_with fail
  refine HO.out.mono ?_
  rintro e w1 ⟨v, rfl, hd, hk⟩
  obtain ⟨ao, cap, hv⟩ := hd.slice
  have HK := hid hk
  cases Z with
  | nil =>
    rw [show ([] : List Dl).length = 0 from rfl] at hv
    subst hv
    clear hd hk
    go_wp2
    go_ret2
    exact ⟨rfl, HK.out⟩
  | cons x r =>
    obtain ⟨N, hN⟩ : ∃ N, (x :: r).length = N := ⟨_, rfl⟩
    rw [hN] at hv
    subst hv
    have hpos : 0 < N := by rw [← hN]; simp
    have hposI : (0 : Int) < N := by omega
    have hz : ((N : Int) == 0) = false := by simp; omega
    obtain ⟨x1, x2⟩ := x
    obtain ⟨g, rfl, c1, c2, -, -⟩ := hd.at (k := 0) (x1 := x1) (x2 := x2) (by simp) rfl
    clear hd hk hN
    go_wp2
    go_ret2
    exact ⟨rfl, HK.out⟩
set_option maxRecDepth 100000 in
theorem rtake_any (w : World) (rb : Nat) (L : List Dl) (h : Rf w rb L) (hok : okL L) :
    Calls Try.prog 27 #[.pointer (some ⟨rb, 0, none⟩)] w fun e w' => e = .returned (.tuple #[.int .i64 (fstT L), .bool (fstB L)]) ∧ Rt w w' rb (takeL L) := by
  have H := hid h
  have HOK := hid hok
  have HF := hid (rfirst_any w rb L h hok)
  have HH := hid (fst_has hok)
  unfold takeL
  obtain ⟨t, ht⟩ : ∃ t, fstT L = t := ⟨_, rfl⟩
  rw [ht] at HF HH ⊢
  clear h hok ht
  cases hB : fstB L with
  | false =>
    rw [hB] at HF
    clear hB HH
    simp only [Bool.false_eq_true, if_false]
    go_enter Try.func27, Try.ntmps27
    go_wp2_with fail
    refine HF.out.mono ?_
    rintro e w1 ⟨rfl, hk⟩
    have HK := hid hk
    clear hk
    go_wp2
    go_ret2
    exact ⟨rfl, H.out.keep HK.out, HK.out.nil⟩
  | true =>
    rw [hB] at HF
    have HB := hid (HH.out hB)
    have HT := hid (show mayT t = true by
      obtain ⟨x, hx, e⟩ := mem_has.1 HB.out
      have := (HOK.out.rng x hx).1
      unfold mayT
      simp
      omega)
    clear hB HH
    simp only [if_true]
    go_enter Try.func27, Try.ntmps27
    go_wp2_with fail
    refine HF.out.mono ?_
    rintro e w1 ⟨rfl, hk⟩
    have HK := hid hk
    clear hk
    go_wp2_with fail
    refine (rlv_any w1 rb L t (H.out.keep HK.out) HOK.out).mono ?_
    rintro e w2 ⟨rfl, hR⟩
    have hl : lvL L t = delP L t := by unfold lvL; rw [HT.out, if_pos rfl]
    rw [hl] at hR
    have R2 := hid (show Rt w w2 rb (delP L t) from ⟨hR.1, HK.out.nil.trans hR.2⟩)
    clear hR hl
    go_wp2
    go_ret2
    exact ⟨rfl, R2.out⟩
set_option maxRecDepth 100000 in
theorem rclear_any (w : World) (rb : Nat) (L : List Dl) (h : Rf w rb L) (hok : okL L) :
    Calls Try.prog 28 #[.pointer (some ⟨rb, 0, none⟩)] w fun e w' => (∃ v, e = .returned v ∧ Ns w' w.heap.size v ((ordL L).map (·.1))) ∧ Rt w w' rb [] := by
  have H := hid h
  have HL := hid (rlist_any w rb L h hok)
  generalize (ordL L).map (·.1) = Z at HL ⊢
  clear h hok
  go_enter Try.func28, Try.ntmps28
  go_wp2_with fail
  refine HL.out.mono ?_
  rintro e w1 ⟨v, rfl, hn, hk⟩
  obtain ⟨ao, cap, hv⟩ := hn.slice
  obtain ⟨N, hN⟩ : ∃ N, Z.length = N := ⟨_, rfl⟩
  rw [hN] at hv
  subst hv
  have HS := hid (H.out.set hk (Dr.nil w1 0))
  obtain ⟨v0, hb, -⟩ := H.out.keep hk
  have cc := cell_one hb
  have ff := free_one hb
  have HN := hid (hn.kp (Kp.setCell w1 ⟨rb, 0, none⟩ (.slice none 0 0)) (fun g hg => by
    simp
    obtain ⟨-, cur, hc⟩ := owns_block hn hg
    exact fun e => block_ne hc hb (by decide) e))
  clear hn hk hN hb
  go_wp2
  go_ret
  exact ⟨⟨_, rfl, HN.out⟩, HS.out⟩
end Go.Proofs.Ytpkjnjhbgjgfaaa
