/- ArenaSteps: the walk. -/
import Derived.Test.YtihlejphjdelfaaDoWrite
import Derived.Test.YtihlejphjdelfaaMuch
namespace Go.Proofs.Ytihlejphjdelfaa
open Go.RowKit
set_option linter.unusedVariables false
set_option linter.unusedSectionVars false

theorem do_any (w : World) (rb mb rr mr n : Nat) (f : Nat → Int) (c : Int) (h : Two w rb mb rr mr n f c) (hg : Good n) (hc0 : 0 ≤ c) (hc1 : c < 1000000) (s : St) (hs : s.fit w) (hvb : s.l ≠ [] → ∀ k, s.v.ownBlock = some k → k ≠ rb ∧ k ≠ mb ∧ k ≠ rr ∧ k ≠ mr) :
    Calls Try.prog 13 #[.pointer (some ⟨rb, 0, none⟩), .pointer (some ⟨rr, 0, none⟩), .agg #[.int .i64 s.k, .int .i64 s.a, .int .i64 s.m, .int .u32 s.x, .slice s.ao s.l.length s.cp]] w fun e w' => Went w w' rb mb rr mr n c e := by
  obtain ⟨k, a, m, x, ao, cp, l⟩ := s
  obtain ⟨hb, hy, hml, hk, ha, hm, hx0, hx1⟩ := hs
  simp only [St.v] at hb hvb
  dsimp only at *
  rcases int_cases k with rfl | rfl | rfl | rfl | rfl | rfl | ⟨h1, h2, h3, h4, h5, h6⟩
  · by_cases hw : hasW n a = true
    · have hc := of_decide_eq_true hw
      obtain ⟨o, rfl⟩ := Int.eq_ofNat_of_zero_le hc.1
      exact do_get_ok w rb mb rr mr n f c h hg hc0 hc1 o m x ao l.length cp (by omega) (by omega)
    · exact do_get_no w rb mb rr mr n f c h hg hc0 hc1 a m x ao l.length cp ha.2 (by simpa using hw)
  · by_cases hw : hasW n a = true
    · have hc := of_decide_eq_true hw
      obtain ⟨o, rfl⟩ := Int.eq_ofNat_of_zero_le hc.1
      exact do_set_ok w rb mb rr mr n f c h hg hc0 hc1 o m x ao l.length cp hx0 hx1 (by omega) (by omega)
    · exact do_set_no w rb mb rr mr n f c h hg hc0 hc1 a m x ao l.length cp ha.2 (by simpa using hw)
  · by_cases hw : hasB n a m = true
    · have hc := of_decide_eq_true hw
      obtain ⟨o, rfl⟩ := Int.eq_ofNat_of_zero_le hc.1
      obtain ⟨m, rfl⟩ := Int.eq_ofNat_of_zero_le hc.2.1
      exact do_read_ok w rb mb rr mr n f c h hg hc0 hc1 o m x ao l.length cp (by omega)
    · exact do_read_no w rb mb rr mr n f c h hg hc0 hc1 a m x ao l.length cp ha.2 (by simpa using hw)
  · by_cases hw : hasB n a l.length = true
    · have hc := of_decide_eq_true hw
      obtain ⟨o, rfl⟩ := Int.eq_ofNat_of_zero_le hc.1
      exact do_write_ok w rb mb rr mr n f c h hg hc0 hc1 o m x _ l hb hy hml hvb (by omega)
    · exact do_write_no w rb mb rr mr n f c h hg hc0 hc1 a ha.2 m x _ l hb hy hml hvb (by simpa using hw)
  · exact do_reset w rb mb rr mr n f c h hg hc0 hc1 a m x ao l.length cp
  · exact do_copy w rb mb rr mr n f c h hg hc0 hc1 a m x ao l.length cp
  · exact do_other w rb mb rr mr n f c h hg hc0 hc1 k a m x ao l.length cp h1 h2 h3 h4 h5 h6

section
variable (w : World) (V : Value) (N : Nat) (S : Nat → St) (hV : Sc w V N S) (hN : N ≤ 9223372036854775807)
include hV hN

set_option maxRecDepth 100000 in
set_option maxHeartbeats 1000000 in
theorem steps_bad (n : Int) (h : ¬ Good n) : Calls Try.prog 3 #[.int .i64 n, V] w fun e w' => e = .returned (.bool true) ∧ Kp w w' [] := by
  obtain ⟨ao, cap, rfl⟩ := hV.shape
  clear hV
  go_enter Try.func3, Try.ntmps3
  go_wp2_with fail
  refine (new_no w n h).mono ?_
  rintro e w' ⟨rfl, rfl⟩
  go_wp2_with fail
  refine (refnew_no w' n h).mono ?_
  rintro e w1 ⟨rfl, rfl⟩
  go_wp2_with (go_at_call 9; go_in)
  refine (known_any w1).mono ?_
  rintro e w2 ⟨rfl, hk⟩
  have HK := hid hk
  clear hk
  go_wp2
  go_ret
  exact ⟨rfl, HK.out⟩

set_option maxRecDepth 100000 in
set_option maxHeartbeats 4000000 in
theorem steps_good (n : Nat) (h : Good n) : Calls Try.prog 3 #[.int .i64 n, V] w fun e w' => e = .returned (.bool true) ∧ Kp w w' [] := by
  obtain ⟨ao, cap, rfl⟩ := hV.shape
  have HV := hid hV
  have HN := hid (show n ≤ 65536 by have := h.2.1; omega)
  clear hV
  go_enter Try.func3, Try.ntmps3
  go_wp2_with fail
  refine (new_ok w n h).mono ?_
  rintro e w1 ⟨rb, mb, rfl, hA1, hrb, hmb, hK1⟩
  have HA1 := hid hA1
  have HK1 := hid hK1
  clear hA1 hK1
  go_wp2_with fail
  refine (refnew_ok w1 n h).mono ?_
  rintro e w2 ⟨rr, mr, rfl, hR2, hrr, hmr, hK2⟩
  have HT2 := hid (show Two w2 rb mb rr mr n (fun _ => 0) 0 from ⟨HA1.out.keep hK2 (by simp) (by simp), hR2, by have := HA1.out.lt; omega⟩)
  have HK2 := hid (HK1.out.trans hK2)
  have HB := hid (show w.heap.size ≤ rb ∧ w.heap.size ≤ mb ∧ w.heap.size ≤ rr ∧ w.heap.size ≤ mr by have := HK1.out.size; omega)
  clear hR2 hrr hmr hrb hmb hK2 HA1 HK1
  go_wp2_with fail
  refine (much_any w2 _ N S (HV.out.keep HK2.out) hN).mono ?_
  rintro e w3 ⟨B, rfl, hK3⟩
  have HT3 := hid (HT2.out.keep hK3)
  have HK3 := hid (HK2.out.trans hK3)
  clear hK3 HT2 HK2
  cases B with
  | true =>
    go_wp2_with fail
    refine (known_any w3).mono ?_
    rintro e w4 ⟨rfl, hk⟩
    have HK := hid (HK3.out.trans hk)
    clear hk
    go_wp2
    go_ret
    exact ⟨rfl, HK.out⟩
  | false =>
    go_wp2_with (go_at_call 9; go_in)
    refine (stands_ok w3 rb mb n _ 0 rr mr HT3.out.1 HT3.out.2.1 HN.out).mono ?_
    rintro e w4 ⟨rfl, hK4⟩
    have HT4 := hid (HT3.out.keep hK4)
    have HK4 := hid (HK3.out.trans hK4)
    clear hK4 HT3 HK3
    go_wp2
    go_loopw [5, 7, 8, 9] (fun a r i ok wr => ∃ (rb' mb' k : Nat) (f' : Nat → Int) (c' : Int), k ≤ 200 ∧ k ≤ N ∧ a = .pointer (some ⟨rb', 0, none⟩) ∧ r = .pointer (some ⟨rr, 0, none⟩) ∧ i = .int .i64 k ∧ Hid (Two wr rb' mb' rr mr n f' c' ∧ 0 ≤ c' ∧ c' ≤ k ∧ w.heap.size ≤ rb' ∧ w.heap.size ≤ mb') ∧ Hid (Kp w wr []))
      (fun _ _ i _ _ => 200 - (intOf i).toNat)
    case atStart => exact ⟨rb, mb, 0, _, 0, by omega, by omega, rfl, rfl, rfl, ⟨HT4.out, by omega, by omega, HB.out.1, HB.out.2.1⟩, HK4.out⟩
    case round =>
      obtain ⟨rb', mb', k, f', c', hk2, hkN, rfl, rfl, rfl, hT, hK⟩ := hrel
      by_cases hlt : k < N ∧ k < 200
      · have h1 : (k : Int) < (N : Int) := by omega
        have h2 : (k : Int) < 200 := by omega
        obtain ⟨b, off, rfl, hcp, u0, u1, u2, u3, u4⟩ := (HV.out.keep hK.out).at hlt.1
        obtain ⟨s, hs⟩ : ∃ s, s = S k := ⟨_, rfl⟩
        rw [← hs] at u0 u1 u2 u3 u4
        have hfit : s.fit wr := by rw [hs]; obtain ⟨_, _, _, _, _, hf⟩ := HV.out.keep hK.out; exact hf k hlt.1
        have hfit0 : s.fit w := by rw [hs]; obtain ⟨_, _, _, _, _, hf⟩ := HV.out; exact hf k hlt.1
        have HF := hid hfit
        have HF0 := hid hfit0
        clear hs hfit hfit0
        go_wp2_with fail
        refine (do_any wr rb' mb' rr mr n f' c' hT.out.1 h hT.out.2.1 (by have := hT.out.2.2.1; omega) s HF.out (fun hne j e => by have := HF0.out.1.lt hne j e; have := HB.out; have := hT.out.2.2.2; omega)).mono ?_
        rintro e w5 ⟨r2, m2, f2, c2, rfl, hT5, hc0, hc1, hsame, hK5⟩
        have HT5 := hid (show Two w5 r2 m2 rr mr n f2 c2 ∧ 0 ≤ c2 ∧ c2 ≤ ((k + 1 : Nat) : Int) ∧ w.heap.size ≤ r2 ∧ w.heap.size ≤ m2 by
          have h3 := hT.out.2.2.1
          have h4 := hT.out.2.2.2
          have h5 := hK.out.size
          refine ⟨hT5, hc0, by omega, ?_, ?_⟩
          · rcases hsame with ⟨rfl, rfl⟩ | hh <;> omega
          · rcases hsame with ⟨rfl, rfl⟩ | hh <;> omega)
        have HK5 := hid (hK.out.newer hK5 (by have h4 := hT.out.2.2.2; have h6 := HB.out; simp; omega))
        clear hT5 hc0 hc1 hsame hK5 u0 u1 u2 u3 u4
        go_wp2
        go_roundw
        case rel => exact ⟨r2, m2, k + 1, f2, _, by omega, by omega, rfl, rfl, by go_num, HT5.out, HK5.out⟩
        case measure => simp [intOf]; omega
      · by_cases hkn' : k < N
        · have h1 : (k : Int) < (N : Int) := by omega
          have h2 : (200 : Int) ≤ (k : Int) := by omega
          clear hlt
          go_wp2_with fail
          refine (stands_ok wr rb' mb' n _ _ rr mr hT.out.1.1 hT.out.1.2.1 HN.out).mono ?_
          rintro e w5 ⟨rfl, hK5⟩
          have HK5 := hid (hK.out.trans hK5)
          clear hK5
          go_wp2_with fail
          refine (known_any w5).mono ?_
          rintro e w6 ⟨rfl, hK6⟩
          have HK6 := hid (HK5.out.trans hK6)
          clear hK6
          go_wp2
          go_ret
          exact ⟨rfl, HK6.out⟩
        · have h1 : (N : Int) ≤ (k : Int) := by omega
          clear hlt
          go_wp2_with fail
          refine (stands_ok wr rb' mb' n _ _ rr mr hT.out.1.1 hT.out.1.2.1 HN.out).mono ?_
          rintro e w5 ⟨rfl, hK5⟩
          have HK5 := hid (hK.out.trans hK5)
          clear hK5
          go_wp2_with fail
          refine (known_any w5).mono ?_
          rintro e w6 ⟨rfl, hK6⟩
          have HK6 := hid (HK5.out.trans hK6)
          clear hK6
          go_wp2
          go_ret
          exact ⟨rfl, HK6.out⟩
end
end Go.Proofs.Ytihlejphjdelfaa
