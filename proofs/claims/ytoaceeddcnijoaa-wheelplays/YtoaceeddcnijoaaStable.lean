/- stableCmpFunc, SortStableFunc: a row is sorted, stably. -/
import Derived.Test.YtoaceeddcnijoaaSymD
import Derived.Test.YtoaceeddcnijoaaSymE
import Derived.Test.YtoaceeddcnijoaaChk
namespace Go.Proofs.Ytoaceeddcnijoaa
open Go.RowKit Go.Shelf Go.Lib Go.Sort

theorem sym_ok (w0 : World) (blk cap N : Nat) (L0 : List Dl) (h0 : Hk w0 blk L0) (hl : L0.length = N) (hblk : blk < w0.heap.size) (hsz : N < 1000000) : ∀ K, SymOk w0 blk cap N K
  | 0 => fun A X Y R W a m b hK hS hN ha hm hb hx hy hX hY => by omega
  | K + 1 => fun A X Y R W a m b hK hS hN ha hm hb hx hy hX hY => by
    by_cases hx1 : X.length = 1
    · obtain ⟨x, rfl⟩ := List.length_eq_one_iff.1 hx1
      refine (sym_one w0 blk cap A x Y R L0 W a m b N (by simpa using hS) h0 hl (by simpa using hN) hblk ha (by simpa using hm) (by simp at hm; omega) hY hsz).mono ?_
      rintro e w' ⟨rfl, Z, hZ, hS'⟩
      exact ⟨rfl, Z, hZ, by simpa using hS'⟩
    · by_cases hy1 : Y.length = 1
      · obtain ⟨y, rfl⟩ := List.length_eq_one_iff.1 hy1
        refine (sym_last w0 blk cap A X y R L0 W a m b N (by simpa using hS) h0 hl (by simpa using hN) hblk ha hm (by simpa using hb) hX hx1 hsz).mono ?_
        rintro e w' ⟨rfl, Z, hZ, hS'⟩
        exact ⟨rfl, Z, hZ, by simpa using hS'⟩
      · by_cases hc : (a + b) / 2 < m
        · exact sym_late w0 blk cap N K L0 h0 hl hblk hsz (sym_ok w0 blk cap N L0 h0 hl hblk hsz K) A X Y R W a m b hK hS hN ha hm hb (by omega) (by omega) hX hY hc
        · exact sym_early w0 blk cap N K L0 h0 hl hblk hsz (sym_ok w0 blk cap N L0 h0 hl hblk hsz K) A X Y R W a m b hK hS hN ha hm hb (by omega) (by omega) hX hY hc

theorem ins_at (w0 : World) (blk cap N : Nat) (L L0 : List Dl) (W : World) (a b c : Nat) (hS : Sw w0 blk L W) (h0 : Hk w0 blk L0) (hl : L0.length = N) (hN : L.length = N) (hblk : blk < w0.heap.size) (hsz : N < 1000000) (hab : a + c = b) (hb : b ≤ N) :
    Calls Try.prog 47 #[.slice (some ⟨blk, 0, none⟩) N cap, .int .i64 a, .int .i64 b, cmpV] W fun e w' => e = .returned (.tuple #[]) ∧ ∃ Z, St ((L.drop a).take c) Z ∧ Sw w0 blk (L.take a ++ Z ++ L.drop (a + c)) w' := by
  have e := take_mid L a c
  have lA : (L.take a).length = a := by rw [List.length_take]; omega
  have lX : ((L.drop a).take c).length = c := by rw [List.length_take, List.length_drop]; omega
  have e' : L.take a ++ (L.drop a).take c ++ L.drop (a + c) = L := by rw [List.append_assoc]; exact e.symm
  have hc := ins_any w0 blk cap (L.take a) ((L.drop a).take c) (L.drop (a + c)) L0 W a b (by rw [e']; exact hS) h0 (by rw [e']; omega) hblk lA.symm (by omega) (by rw [e']; omega)
  rw [e', hN] at hc
  exact hc
theorem sym_at (w0 : World) (blk cap N bs j : Nat) (l L L0 : List Dl) (W : World) (a m b : Nat) (hS : Sw w0 blk L W) (h0 : Hk w0 blk L0) (hl : L0.length = N) (hN : L.length = N) (hblk : blk < w0.heap.size) (hsz : N < 1000000) (hM : M1 bs l L j) (ha : a = j * (2 * bs)) (hm : a + bs = m) (hb : b ≤ m + bs) (hbN : b ≤ N) (hmb : m < b) (hbs : 0 < bs) (hend : b = m + bs ∨ b = N) :
    Calls Try.prog 48 #[.slice (some ⟨blk, 0, none⟩) N cap, .int .i64 a, .int .i64 m, .int .i64 b, cmpV] W fun e w' => e = .returned (.tuple #[]) ∧ ∃ Z, St (sg bs (2 * j) L ++ sg bs (2 * j + 1) L) Z ∧ Sw w0 blk (L.take a ++ (Z ++ L.drop (a + 2 * bs))) w' := by
  have e := m1_parts hM
  rw [← ha] at e
  have e2 := two_mul' bs j
  have e3 : (2 * j + 1) * bs = m := by rw [Nat.add_mul, Nat.one_mul]; omega
  have lA : (L.take a).length = a := by rw [List.length_take]; omega
  have lX : (sg bs (2 * j) L).length = bs := by unfold sg; rw [List.length_take, List.length_drop]; omega
  have lY : (sg bs (2 * j + 1) L).length = b - m := by unfold sg; rw [List.length_take, List.length_drop, e3]; omega
  have hc := sym_ok w0 blk cap N L0 h0 hl hblk hsz _ (L.take a) (sg bs (2 * j) L) (sg bs (2 * j + 1) L) (L.drop (a + 2 * bs)) W a m b (Nat.le_refl _) (by rw [← e]; exact hS) (by rw [← e]; omega) lA.symm (by omega) (by omega) (by omega) (by omega) (hM.2.2 (2 * j) (by omega)).1 (hM.2.2 (2 * j + 1) (by omega)).1
  exact hc

set_option maxRecDepth 100000 in
set_option maxHeartbeats 8000000 in
theorem stable_any (w0 : World) (blk cap N : Nat) (l L0 : List Dl) (W : World) (hS : Sw w0 blk l W) (h0 : Hk w0 blk L0) (hl : L0.length = N) (hN : l.length = N) (hblk : blk < w0.heap.size) (hsz : N < 1000000) :
    Calls Try.prog 45 #[.slice (some ⟨blk, 0, none⟩) N cap, .int .i64 N, cmpV] W fun e w' => e = .returned (.tuple #[]) ∧ ∃ Z, St l Z ∧ Sw w0 blk Z w' := by
  have HS := hid hS
  have H0 := hid h0
  have HL := hid hl
  have HN := hid hN
  clear hS h0 hl hN
  go_enter Try.func45, Try.ntmps45
  go_wp2_with fail
  go_loopw [7, 8] (fun va vb wr => ∃ a b : Nat, va = .int .i64 a ∧ vb = .int .i64 b ∧ a ≤ N ∧ b = a + 20 ∧ Hid (∃ j L, a = j * 20 ∧ P1 20 l L j ∧ Sw w0 blk L wr)) (fun va _ _ => N - (intOf va).toNat)
  case atStart => exact ⟨0, 20, rfl, rfl, Nat.zero_le _, rfl, 0, l, rfl, p1_start 20 l, HS.out⟩
  case round =>
    obtain ⟨a, b, rfl, rfl, haN, hb, hR⟩ := hrel
    by_cases hbN : b ≤ N
    · have hbI : (b : Int) ≤ N := by omega
      obtain ⟨b', hb'⟩ : ∃ b', b + 20 = b' := ⟨_, rfl⟩
      have hb2 : (b : Int) + 20 = (b' : Int) := by omega
      have HB := hid (And.intro hb hb')
      have hab : a < b := by omega
      clear hb hb'
      go_wp2_with fail
      obtain ⟨j, L, hj, hP, hSL⟩ := hR.out
      refine (ins_at w0 blk cap N L L0 _ a b 20 hSL H0.out HL.out (by have := hP.1; have := HN.out; omega) hblk hsz (by have := HB.out; omega) hbN).mono ?_
      rintro e w2 ⟨rfl, Z, hZ, h2⟩
      have H2 := hid (show ∃ j L, b = j * 20 ∧ P1 20 l L j ∧ Sw w0 blk L w2 by
        refine ⟨j + 1, _, by have := HB.out; omega, ?_, h2⟩
        have := p1_step (Z := Z) hP (by have := hP.1; have := HN.out; have := HB.out; omega) (by unfold sg; rw [← hj]; exact hZ)
        rw [← hj] at this
        exact this)
      clear hZ h2 hP hSL hj
      go_wp2
      go_roundw
      case rel => exact ⟨b, b', rfl, by simp, hbN, by have := HB.out; omega, H2⟩
      case measure => simp [intOf]; omega
    · have hbI : ¬ (b : Int) ≤ N := by omega
      go_wp2_with fail
      obtain ⟨j, L, hj, hP, hSL⟩ := hR.out
      refine (ins_at w0 blk cap N L L0 _ a N (N - a) hSL H0.out HL.out (by have := hP.1; have := HN.out; omega) hblk hsz (by omega) (Nat.le_refl _)).mono ?_
      rintro e w2 ⟨rfl, Z, hZ, h2⟩
      have hLN : L.length = N := by have := hP.1; have := HN.out; omega
      have H2 := hid (show ∃ L, Ch 20 l L ∧ Sw w0 blk L w2 by
        rw [show a + (N - a) = N by omega, List.drop_eq_nil_of_le (by omega), List.append_nil] at h2
        rw [List.take_of_length_le (by rw [List.length_drop]; omega)] at hZ
        refine ⟨_, ?_, h2⟩
        have := p1_end (Z := Z) hP (by omega) (by omega) (by rw [← hj]; exact hZ)
        rw [← hj] at this
        exact this)
      clear hZ h2 hP hSL hj hLN hb hbN hbI haN hR
      go_wp2_with fail
      go_loopw [6] (fun vs wr => ∃ bs : Nat, vs = .int .i64 bs ∧ 20 ≤ bs ∧ bs ≤ 2 * N + 20 ∧ Hid (∃ L, Ch bs l L ∧ Sw w0 blk L wr)) (fun vs _ => N - (intOf vs).toNat)
      case atStart => exact ⟨20, rfl, Nat.le_refl _, by omega, H2⟩
      case round =>
        obtain ⟨bs, rfl, h20, hbs, hR⟩ := hrel
        by_cases hlt : bs < N
        · have hltI : (bs : Int) < N := by omega
          obtain ⟨tb, htb⟩ : ∃ tb, 2 * bs = tb := ⟨_, rfl⟩
          have ht1 : (2 : Int) * bs = (tb : Int) := by omega
          have ht2 : (bs : Int) * 2 = (tb : Int) := by omega
          have hbI : (bs : Int) ≤ 1000000 := by omega
          have HTB := hid htb
          have htb1 : bs < tb ∧ tb ≤ 2 * N ∧ tb ≤ 2000000 := by omega
          have htI : (tb : Int) ≤ 2000000 := by omega
          have HR := hid (show ∃ j L, 0 = j * tb ∧ M1 bs l L j ∧ Sw w0 blk L wr by obtain ⟨L, h1, h2⟩ := hR.out; exact ⟨0, L, by omega, m1_start h1, h2⟩)
          clear htb hR
          go_wp2_with fail
          go_loopw [7, 8] (fun va vb wr => ∃ a b : Nat, va = .int .i64 a ∧ vb = .int .i64 b ∧ a ≤ N ∧ b = a + tb ∧ Hid (∃ j L, a = j * tb ∧ M1 bs l L j ∧ Sw w0 blk L wr)) (fun va _ _ => N - (intOf va).toNat)
          case atStart => exact ⟨0, tb, rfl, by simp, Nat.zero_le _, by omega, HR⟩
          case round =>
            obtain ⟨a, b, rfl, rfl, haN, hb, hR2⟩ := hrel
            obtain ⟨m, hm⟩ : ∃ m, a + bs = m := ⟨_, rfl⟩
            have hm1 : (a : Int) + bs = (m : Int) := by omega
            have haI : (a : Int) ≤ 1000000 := by omega
            have HM := hid hm
            by_cases hbN : b ≤ N
            · have hbNI : (b : Int) ≤ N := by omega
              obtain ⟨b', hb'⟩ : ∃ b', b + tb = b' := ⟨_, rfl⟩
              have hb2 : (b : Int) + tb = (b' : Int) := by omega
              have HB := hid (And.intro hb hb')
              have hab : a < b := by omega
              have hbI2 : (b : Int) ≤ 1000000 := by omega
              clear hb hb' hm
              go_wp2_with fail
              obtain ⟨j, L, hj, hP, hSL⟩ := hR2.out
              have hLN : L.length = N := by have := hP.1; have := HN.out; omega
              have htb := HTB.out
              have hj' : a = j * (2 * bs) := by rw [htb]; exact hj
              refine (sym_at w0 blk cap N bs j l L L0 _ a m b hSL H0.out HL.out hLN hblk hsz hP hj' HM.out (by have := HB.out; have := HM.out; omega) hbN (by have := HB.out; have := HM.out; omega) (by omega) (.inl (by have := HB.out; have := HM.out; omega))).mono ?_
              rintro e w2 ⟨rfl, Z, hZ, h2⟩
              have H3 := hid (show ∃ j L, b = j * tb ∧ M1 bs l L j ∧ Sw w0 blk L w2 by
                have hB := HB.out
                refine ⟨j + 1, _, by rw [Nat.add_mul, Nat.one_mul]; omega, ?_, h2⟩
                have := m1_step (Z := Z) hP (by rw [Nat.add_mul, Nat.one_mul]; omega) hZ
                rw [← hj'] at this
                exact this)
              clear hZ h2 hP hSL hj hj' hLN htb
              go_wp2
              go_roundw
              case rel => exact ⟨b, b', rfl, by simp, hbN, by have := HB.out; omega, H3⟩
              case measure => simp [intOf]; omega
            · have hbNI : ¬ (b : Int) ≤ N := by omega
              by_cases hmN : m < N
              · have hmI : (m : Int) < N := by omega
                clear hm
                go_wp2_with fail
                obtain ⟨j, L, hj, hP, hSL⟩ := hR2.out
                have hLN : L.length = N := by have := hP.1; have := HN.out; omega
                have htb := HTB.out
                have hj' : a = j * (2 * bs) := by rw [htb]; exact hj
                refine (sym_at w0 blk cap N bs j l L L0 _ a m N hSL H0.out HL.out hLN hblk hsz hP hj' HM.out (by have := HM.out; omega) (Nat.le_refl _) hmN (by omega) (.inr rfl)).mono ?_
                rintro e w2 ⟨rfl, Z, hZ, h2⟩
                have H3 := hid (show ∃ L, Ch tb l L ∧ Sw w0 blk L w2 by
                  rw [List.drop_eq_nil_of_le (by omega), List.append_nil] at h2
                  refine ⟨_, ?_, h2⟩
                  have := m1_merge (Z := Z) hP (by rw [Nat.add_mul, Nat.one_mul]; omega) (by omega) hZ
                  rw [← hj', htb] at this
                  exact this)
                clear hZ h2 hP hSL hj hj' hLN htb
                go_wp2
                go_roundw
                case rel => exact ⟨tb, by simp, by omega, by omega, H3⟩
                case measure => simp [intOf]; omega
              · have hmI : ¬ (m : Int) < N := by omega
                have H3 := hid (show ∃ L, Ch tb l L ∧ Sw w0 blk L wr by
                  obtain ⟨j, L, hj, hP, hSL⟩ := hR2.out
                  have hLN : L.length = N := by have := hP.1; have := HN.out; omega
                  have htb := HTB.out
                  refine ⟨L, ?_, hSL⟩
                  rw [← htb]
                  exact m1_rest hP (by rw [htb, ← hj]; omega))
                clear hm
                go_wp2
                go_roundw
                case rel => exact ⟨tb, by simp, by omega, by omega, H3⟩
                case measure => simp [intOf]; omega
        · have hltI : ¬ (bs : Int) < N := by omega
          have HF := hid (show ∃ Z, St l Z ∧ Sw w0 blk Z wr by
            obtain ⟨L, h1, h2⟩ := hR.out
            exact ⟨L, h1.whole (by have := HN.out; omega), h2⟩)
          go_wp2
          refine bodyPost_end (results_none rfl _ _ _) rfl ?_
          exact ⟨rfl, HF.out⟩
end Go.Proofs.Ytoaceeddcnijoaa
