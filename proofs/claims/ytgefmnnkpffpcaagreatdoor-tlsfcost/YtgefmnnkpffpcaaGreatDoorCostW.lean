/- TlsfCost's walk. -/
import Derived.Test.YtgefmnnkpffpcaaGreatDoorCgotJ
import Derived.Test.YtgefmnnkpffpcaaGreatDoorHnew2J
import Derived.Deep.RegionHeldLaw
namespace Go.Proofs.YtgefmnnkpffpcaaGreatDoor
open Go.RowKit Go.Maps Go.Shelf

theorem known_ok (w : World) (ht : Tb w) : Calls Tryz.prog 8 #[] w fun e w' => e = .returned (.bool true) ∧ Kp w w' [] := known_if chk9 w ht
def bl1 (n : Nat) (h : Good n) : List Bb := [⟨(112, (n : Int) - 112, true), by have := h.1; have := h.2.1; simp only; omega⟩]
theorem bl1_eq (n : Nat) (h : Good n) : (bl1 n h).map (·.1) = blocksOf n [] := (blocks_new n h).symm
theorem left_none (w : World) (hb rb mb pb n : Nat) (g : Mem) (c : Int) (hg : Good n) (h : Hp w hb rb mb pb n g c []) : Calls Tryz.prog 15 #[.pointer (some ⟨hb, 0, none⟩)] w fun e w' => e = .returned (.int .i64 ((n : Int) - 120)) ∧ Kp w w' [] := by
  have := left_any w hb rb mb pb n g c [] (bl1 n hg) (bl1_eq n hg) h (fun p hp => by cases hp) (by simp) (by simp [bl1])
  rw [blocks_new n hg] at this
  have e : leftOf [(112, (n : Int) - 112, true)] = (n : Int) - 120 := by simp [leftOf]; omega
  rw [e] at this
  exact this

theorem rb1 (w : World) (n : Nat) (hg : Good n) : Rb (w.alloc (.cells #[.int .i64 112, .int .i64 ((n : Int) - 120 + 8), .bool true] 44)) (.slice (some ⟨w.heap.size, 0, none⟩) 1 1) (vals (bl1 n hg)) := by
  refine ⟨_, _, rfl, fun _ => ⟨w.heap.size, 0, rfl, fun k hk => ?_⟩⟩
  have hk0 : k = 0 := by simp [vals, bl1] at hk; omega
  subst hk0
  have e := heap_alloc_new w (.cells #[.int .i64 112, .int .i64 ((n : Int) - 120 + 8), .bool true] 44)
  obtain ⟨W, hW⟩ : ∃ W, w.alloc (.cells #[.int .i64 112, .int .i64 ((n : Int) - 120 + 8), .bool true] 44) = W := ⟨_, rfl⟩
  rw [hW] at e ⊢
  have f : ∀ i, W.cell? ⟨w.heap.size, i, none⟩ = (#[.int .i64 112, .int .i64 ((n : Int) - 120 + 8), .bool true] : Array Value)[i]? := fun i => by simp only [World.cell?, e]; rfl
  rw [f, f, f]
  have h2 : (n : Int) - 120 + 8 = (n : Int) - 112 := by omega
  exact ⟨rfl, by rw [h2]; rfl, rfl⟩
theorem cell_six {w : World} {b : Nat} {a0 a1 a2 a3 a4 a5 : Value} {t : TypeId} (h : w.heap[b]? = some (.cells #[a0, a1, a2, a3, a4, a5] t (0, 0))) :
    w.cell? ⟨b, 0, none⟩ = some a0 ∧ w.cell? ⟨b, 1, none⟩ = some a1 ∧ w.cell? ⟨b, 2, none⟩ = some a2 ∧ w.cell? ⟨b, 3, none⟩ = some a3 := by
  refine ⟨?_, ?_, ?_, ?_⟩ <;> simp [World.cell?, h]
theorem Rs.front {w : World} {base g m cap : Nat} {l : List Int} (h : Is w base (.slice (some ⟨g, 0, none⟩) m cap) l) (k : Nat) (hk : k ≤ l.length) : Rs w (.slice (some ⟨g, 0, none⟩) k cap) (l.take k) := by
  refine ⟨some ⟨g, 0, none⟩, cap, ?_, by simp, fun _ => ⟨g, 0, rfl, fun j x hj => ?_⟩⟩
  · rw [List.length_take, Nat.min_eq_left hk]
  · have hj' : l[j]? = some x := by
      rw [List.getElem?_take] at hj
      split at hj
      · exact hj
      · cases hj
    obtain ⟨g', e, -, -, hc⟩ := h.at hj'
    cases e
    rw [Nat.zero_add]
    exact hc
theorem Rs.back {w : World} {base g m cap : Nat} {l : List Int} (h : Is w base (.slice (some ⟨g, 0, none⟩) m cap) l) (k : Nat) (ao : Option Addr) (hk : k < l.length → ao = some ⟨g, k, none⟩) (cp : Nat) (hz : ao = none → cp = 0) : Rs w (.slice ao (l.length - k) cp) (l.drop k) := by
  refine ⟨ao, cp, by rw [List.length_drop], hz, fun hne => ?_⟩
  have hlt : k < l.length := by
    rcases Nat.lt_or_ge k l.length with q | q
    · exact q
    · exact absurd (List.drop_eq_nil_of_le q) hne
  refine ⟨g, k, hk hlt, fun j x hj => ?_⟩
  rw [List.getElem?_drop] at hj
  obtain ⟨g', e, -, -, hc⟩ := h.at hj
  cases e
  exact hc

set_option maxRecDepth 100000 in
set_option maxHeartbeats 8000000 in
set_option pp.deepTerms true in
set_option pp.maxSteps 200000 in
set_option pp.deepTerms true in
set_option pp.maxSteps 200000 in
set_option pp.deepTerms true in
set_option pp.maxSteps 200000 in
theorem cost_walk (w : World) (ht : Tb w) (V : Value) (N : Nat) (S : Nat → St) (hV : Sc w V N S) (n : Nat) (hg : Good n) :
    Calls Tryz.prog 5 #[.int .i64 n, V] w fun e w' => e = .returned (.bool true) ∧ Kp w w' [] := by
  obtain ⟨ao, cap, rfl⟩ := hV.shape
  have HV := hid hV
  have HG := hid hg
  have HT := hid ht
  have hn : 256 ≤ (n : Int) ∧ (n : Int) ≤ 65536 := ⟨hg.1, hg.2.1⟩
  clear hV hg ht
  go_enter Tryz.func5, Tryz.ntmps5
  go_wp2_with fail
  refine (known_ok w HT.out).mono ?_
  rintro e w0 ⟨rfl, hK0⟩
  have K0 := hid hK0
  have T0 := hid (HT.out.keep hK0 (by simp))
  clear hK0
  go_wp2_with fail
  refine (made_ok w0 n HG.out T0.out).mono ?_
  rintro e w1 ⟨hb, rb, mb, pb, rfl, ⟨c1, hc1, hd1, hH, hK⟩, hn1, hn2, hn3, hn4⟩
  have K1 := hid (K0.out.trans hK)
  have H1 := hid hH
  have NB := hid (show w.heap.size ≤ hb ∧ w.heap.size ≤ rb ∧ w.heap.size ≤ mb ∧ w.heap.size ≤ pb ∧ 0 < w.heap.size by have := K0.out.size; have := HT.out.lt; omega)
  clear hH hK hn1 hn2 hn3 hn4
  go_wp2_with fail
  refine (left_none w1 hb rb mb pb n _ c1 HG.out H1.out).mono ?_
  rintro e w2 ⟨rfl, hK⟩
  have L2 := hid (show Lc w w2 hb rb mb pb n (fresh0 n) [] [] [] (.slice none 0 0) c1 from ⟨H1.out.same hK, cs_new HG.out, Is.nil _ _, NB.out, K1.out.trans hK⟩)
  clear hK
  go_wp2_with fail
  go_loopw [7, 8] (fun vl vi wr => ∃ (i m cap : Nat) (ao : Option Addr), i ≤ 120 ∧ vi = .int .i64 i ∧ vl = .slice ao m cap ∧ m ≤ i ∧ Hid (∃ g P ls c, Lc w wr hb rb mb pb n g P ls ls (.slice ao m cap) c ∧ ls.length = m ∧ c ≤ 200))
    (fun _ vi _ => 120 - (intOf vi).toNat)
  case atStart => exact ⟨0, 0, 0, none, by omega, rfl, rfl, by omega, _, _, _, _, L2.out, rfl, by omega⟩
  case round =>
    obtain ⟨i, m, cp, al, hi, rfl, rfl, hmi, hL⟩ := hrel
    by_cases hlt : i < N ∧ i < 120
    · obtain ⟨hi1, hi2⟩ := hlt
      obtain ⟨g, P, ls, c, hL, hm, -⟩ := hL.out
      have HL := hid hL
      have HM := hid hm
      obtain ⟨b, off, rfl, ⟨y0, y1, y2, y3, y4, y5⟩, hfit⟩ := (HV.out.keep hL.kp).at hi1
      obtain ⟨sk, hk⟩ : ∃ x, (S i).k = x := ⟨_, rfl⟩
      obtain ⟨sn, hn'⟩ : ∃ x, (S i).n = x := ⟨_, rfl⟩
      obtain ⟨sm, hm'⟩ : ∃ x, (S i).m = x := ⟨_, rfl⟩
      obtain ⟨sa, ha⟩ : ∃ x, (S i).a = x := ⟨_, rfl⟩
      obtain ⟨so, ho⟩ : ∃ x, (S i).odd = x := ⟨_, rfl⟩
      obtain ⟨sw, hw⟩ : ∃ x, (S i).wd = x := ⟨_, rfl⟩
      unfold St.fit at hfit
      rw [hk, hn', hm', ha, hw] at hfit
      rw [hk] at y0; rw [hn'] at y1; rw [hm'] at y2; rw [ha] at y3; rw [ho] at y4; rw [hw] at y5
      have FIT := hid hfit
      clear hL hm hk hn' hm' ha ho hw hfit
      have hi1' : (i : Int) < N := by omega
      have hi2' : (i : Int) < 120 := by omega
      go_wp2_with fail
      obtain ⟨xb, hxb⟩ : ∃ xb, wr.heap.size = xb := ⟨_, rfl⟩
      obtain ⟨W1, hW1⟩ : ∃ W1, wr.alloc (.cells #[.int .i64 sk, .int .i64 sn, .int .i64 sm, .int .i64 sa, .bool so, .int .u32 sw] 35) = W1 := ⟨_, rfl⟩
      have XB := hid (show W1.heap[xb]? = some (.cells #[.int .i64 sk, .int .i64 sn, .int .i64 sm, .int .i64 sa, .bool so, .int .u32 sw] 35 (0, 0)) by rw [← hW1, ← hxb]; exact heap_alloc_new wr _)
      have L1 := hid (show Lc w W1 hb rb mb pb n g P ls ls (.slice al m cp) c by rw [← hW1]; exact HL.out.same (Kp.alloc _ _ _))
      have XL := hid (show hb < xb ∧ rb < xb ∧ mb < xb ∧ pb < xb by have := HL.out.hp.lt; omega)
      rw [hW1, hxb]
      clear hW1 hxb y0 y1 y2 y3 y4 y5 HL
      refine (arena_any W1 hb rb mb pb n g c P L1.out.hp).mono ?_
      rintro e w3 ⟨rfl, hK⟩
      have L3 := hid (L1.out.same hK)
      have X3 := hid ((hK.block xb (lt_of_block XB.out) (by simp)).trans XB.out)
      clear hK L1 XB
      go_wp2_with fail
      refine (hreset_ok w3 hb rb mb pb n g c P L3.out.hp).mono ?_
      rintro e w4 ⟨rfl, hH, hK⟩
      have L4 := hid (L3.out.reset hH hK)
      have X4 := hid ((hK.block xb (lt_of_block X3.out) (by have := XL.out; simp; omega)).trans X3.out)
      clear hH hK L3 X3
      obtain ⟨x0, x1, x2, x3⟩ := cell_six X4.out
      have hl120 : ls.length ≤ 120 := by have := HM.out; omega
      refine (Classical.em (sk = 1)).elim (fun hk => ?k1) (fun hk1 => ?n1)
      case' k1 =>
        subst hk
        go_wp2_with fail
        refine (alloc_got L4.out (by omega) sn).mono ?_
        rintro e w5 ⟨hG, hK5⟩
        refine hG.elim (fun hE => ?e1) (fun hS => ?s1)
        case' e1 =>
          obtain ⟨er, rfl, her, g5, P5, c5, hc5, hL5⟩ := hE
          have HC := hid hL5
          have hcc : ¬ (200 : Int) < c5 := by omega
          have MM := hid (show ls.length = m ∧ m ≤ i + 1 from ⟨HM.out, by omega⟩)
          have her' : (er != 0) = true := by simp [bne, her]
          clear hL5 hK5 L4 X4 x0 x1 x2 x3 hc5
          go_wp2_with (go_at_call 13; refine (num_any _ _).mono ?_; rintro e wn ⟨rfl, hE⟩; rw [hE]; clear hE)
        case' s1 =>
          obtain ⟨a, rfl, -, g5, P5, c5, hc5, hL5⟩ := hS
          have p5 := cs_piece hL5.ct (show a ∈ ls ++ [a] by simp)
          have ha0 : 120 ≤ a := p5.2.1
          have ha1 : a ≤ 65536 := by omega
          have ha8 : a % 8 = 0 := p5.1
          have hat : a.tmod 8 = 0 := by rw [Int.tmod_eq_emod_of_nonneg (by omega)]; exact p5.1
          have z0 := hK5.cell x0 (by have := XL.out; simp; omega)
          have z2 := hK5.cell x2 (by have := XL.out; simp; omega)
          have L5 := hid hL5
          have hcc : ¬ (200 : Int) < c5 := by omega
          clear hL5 hK5 L4 X4 x0 x1 x2 x3 p5 hc5
          go_wp2_with (go_at_call 13; refine (num_any _ _).mono ?_; rintro e wn ⟨rfl, hE⟩; rw [hE]; clear hE)
          refine (apart_got L5.out (by omega)).mono ?_
          rintro e w6 ⟨rfl, hK6⟩
          have L6 := hid (L5.out.same hK6)
          have hsz : w.heap.size ≤ w6.heap.size := L6.out.kp.size
          clear hK6 L5 z0 z2
          go_wp2_with (refine wpList_push rfl (.tmp 89) (.tmp 91) rfl w.heap.size (.slice al m cp) ls a rfl L6.out.os rfl (by omega) hsz ?_; intro v7 w7 hI7 hG7; obtain ⟨al7, cp7, hv7⟩ := hI7.slice; rw [List.length_append, List.length_cons, List.length_nil, Nat.zero_add] at hv7; subst hv7; have HC := hid (L6.out.push hG7 hI7); clear hI7 hG7)
          have MM := hid (show (ls ++ [a]).length = ls.length + 1 ∧ ls.length + 1 ≤ i + 1 from ⟨by simp, by have := HM.out; omega⟩)
          clear L6
      case' n1 =>
        refine (Classical.em (sk = 2)).elim (fun hk => ?k2) (fun hk2 => ?n2)
        case' k2 =>
          subst hk
          clear hk1
          go_wp2_with fail
          refine (aligned_got L4.out (by omega) sm sn FIT.out.2.2.1.1).mono ?_
          rintro e w5 ⟨hG, hK5⟩
          refine hG.elim (fun hE => ?e2) (fun hS => ?s2)
          case' e2 =>
            obtain ⟨er, rfl, her, g5, P5, c5, hc5, hL5⟩ := hE
            have HC := hid hL5
            have hcc : ¬ (200 : Int) < c5 := by omega
            have MM := hid (show ls.length = m ∧ m ≤ i + 1 from ⟨HM.out, by omega⟩)
            have her' : (er != 0) = true := by simp [bne, her]
            clear hL5 hK5 L4 X4 x0 x1 x2 x3 hc5
            go_wp2_with (go_at_call 13; refine (num_any _ _).mono ?_; rintro e wn ⟨rfl, hE⟩; rw [hE]; clear hE)
          case' s2 =>
            obtain ⟨a, rfl, ⟨h8, hmul⟩, g5, P5, c5, hc5, hL5⟩ := hS
            have p5 := cs_piece hL5.ct (show a ∈ ls ++ [a] by simp)
            have ha0 : 120 ≤ a := p5.2.1
            have ha1 : a ≤ 65536 := by omega
            have ha8 : a % 8 = 0 := p5.1
            have hat : a.tmod 8 = 0 := by rw [Int.tmod_eq_emod_of_nonneg (by omega)]; exact p5.1
            have hm0 : ¬ sm = 0 := by omega
            have hmr : a % sm = 0 := hmul
            have hmt : a.tmod sm = 0 := by rw [Int.tmod_eq_emod_of_nonneg (by omega)]; exact hmul
            clear hmul
            have z0 := hK5.cell x0 (by have := XL.out; simp; omega)
            have z2 := hK5.cell x2 (by have := XL.out; simp; omega)
            have L5 := hid hL5
            have hcc : ¬ (200 : Int) < c5 := by omega
            clear hL5 hK5 L4 X4 x0 x1 x2 x3 p5 hc5
            go_wp2_with (go_at_call 13; refine (num_any _ _).mono ?_; rintro e wn ⟨rfl, hE⟩; rw [hE]; clear hE)
            refine (apart_got L5.out (by omega)).mono ?_
            rintro e w6 ⟨rfl, hK6⟩
            have L6 := hid (L5.out.same hK6)
            have hsz : w.heap.size ≤ w6.heap.size := L6.out.kp.size
            clear hK6 L5 z0 z2
            go_wp2_with (refine wpList_push rfl (.tmp 89) (.tmp 91) rfl w.heap.size (.slice al m cp) ls a rfl L6.out.os rfl (by omega) hsz ?_; intro v7 w7 hI7 hG7; obtain ⟨al7, cp7, hv7⟩ := hI7.slice; rw [List.length_append, List.length_cons, List.length_nil, Nat.zero_add] at hv7; subst hv7; have HC := hid (L6.out.push hG7 hI7); clear hI7 hG7)
            have MM := hid (show (ls ++ [a]).length = ls.length + 1 ∧ ls.length + 1 ≤ i + 1 from ⟨by simp, by have := HM.out; omega⟩)
            clear L6
        case' n2 =>
          refine (Classical.em (sk = 4)).elim (fun hk => ?k4) (fun hk4 => ?n4)
          case' k4 =>
            subst hk
            clear hk1 hk2
            go_wp2_with fail
            refine (aligned_got L4.out (by omega) sm sn FIT.out.2.2.1.1).mono ?_
            rintro e w5 ⟨hG, hK5⟩
            refine hG.elim (fun hE => ?e4) (fun hS => ?s4)
            case' e4 =>
              obtain ⟨er, rfl, her, g5, P5, c5, hc5, hL5⟩ := hE
              have HC := hid hL5
              have hcc : ¬ (200 : Int) < c5 := by omega
              have MM := hid (show ls.length = m ∧ m ≤ i + 1 from ⟨HM.out, by omega⟩)
              have her' : (er != 0) = true := by simp [bne, her]
              clear hL5 hK5 L4 X4 x0 x1 x2 x3 hc5
              go_wp2_with (go_at_call 13; refine (num_any _ _).mono ?_; rintro e wn ⟨rfl, hE⟩; rw [hE]; clear hE)
            case' s4 =>
              obtain ⟨a, rfl, ⟨h8, hmul⟩, g5, P5, c5, hc5, hL5⟩ := hS
              have p5 := cs_piece hL5.ct (show a ∈ ls ++ [a] by simp)
              have ha0 : 120 ≤ a := p5.2.1
              have ha1 : a ≤ 65536 := by omega
              have ha8 : a % 8 = 0 := p5.1
              have hat : a.tmod 8 = 0 := by rw [Int.tmod_eq_emod_of_nonneg (by omega)]; exact p5.1
              have hm0 : ¬ sm = 0 := by omega
              have hmr : a % sm = 0 := hmul
              have hmt : a.tmod sm = 0 := by rw [Int.tmod_eq_emod_of_nonneg (by omega)]; exact hmul
              clear hmul
              have z0 := hK5.cell x0 (by have := XL.out; simp; omega)
              have z2 := hK5.cell x2 (by have := XL.out; simp; omega)
              have L5 := hid hL5
              have hcc : ¬ (200 : Int) < c5 := by omega
              clear hL5 hK5 L4 X4 x0 x1 x2 x3 p5 hc5
              go_wp2_with (go_at_call 13; refine (num_any _ _).mono ?_; rintro e wn ⟨rfl, hE⟩; rw [hE]; clear hE)
              refine (apart_got L5.out (by omega)).mono ?_
              rintro e w6 ⟨rfl, hK6⟩
              have L6 := hid (L5.out.same hK6)
              have hsz : w.heap.size ≤ w6.heap.size := L6.out.kp.size
              clear hK6 L5 z0 z2
              go_wp2_with (refine wpList_push rfl (.tmp 89) (.tmp 91) rfl w.heap.size (.slice al m cp) ls a rfl L6.out.os rfl (by omega) hsz ?_; intro v7 w7 hI7 hG7; obtain ⟨al7, cp7, hv7⟩ := hI7.slice; rw [List.length_append, List.length_cons, List.length_nil, Nat.zero_add] at hv7; subst hv7; have HC := hid (L6.out.push hG7 hI7); clear hI7 hG7)
              have MM := hid (show (ls ++ [a]).length = ls.length + 1 ∧ ls.length + 1 ≤ i + 1 from ⟨by simp, by have := HM.out; omega⟩)
              clear L6
          case' n4 =>
            refine (Classical.em (sk = 3)).elim (fun hk => ?k3) (fun hk3 => ?n3)
            case' k3 =>
              subst hk
              clear hk1 hk2 hk4
              refine (Classical.em (0 < m ∧ 0 ≤ sa)).elim (fun hN0 => ?isFree) (fun hN0 => ?noFree)
              case' isFree =>
                obtain ⟨hm0, hn0⟩ := hN0
                have hm0' : (0 : Int) < m := by omega
                obtain ⟨k, hk'⟩ : ∃ k : Nat, sa.tmod m = k := ⟨(sa.tmod m).toNat, (Int.toNat_of_nonneg (Int.tmod_nonneg _ hn0)).symm⟩
                have hke : sa % m = k := by rw [← hk', Int.tmod_eq_emod_of_nonneg hn0]
                have hkm : k < m := by
                  have := Int.tmod_lt_of_pos sa hm0'
                  omega
                have hkb : 0 ≤ (k : Int) ∧ (k : Int) < m := by omega
                have hkl : k < ls.length := by have := HM.out; omega
                obtain ⟨o, ho⟩ : ∃ o, ls[k]? = some o := ⟨_, List.getElem?_eq_getElem hkl⟩
                obtain ⟨gb, rfl, -, -, co⟩ := L4.out.os.at ho
                have HO := hid ho
                have hm2 : ¬ (m : Int) = 0 := by omega
                have hcpm : m ≤ cp := by have := L4.out.os.cap; omega
                clear ho
                go_wp2_with fail
                refine (free_got L4.out (by omega) HO.out).mono ?_
                rintro e w5 ⟨rfl, ⟨g5, P5, c5, h51, h52, hL5⟩, hK5⟩
                have L5 := hid hL5
                have hcc : ¬ (200 : Int) < c5 := by omega
                clear hL5 hK5 L4 X4 x0 x1 x2 x3 co
                go_wp2_with (go_at_call 13; refine (num_any _ _).mono ?_; rintro e wn ⟨rfl, hE⟩; rw [hE]; clear hE)
                obtain ⟨k1, hk1e⟩ : ∃ k1, k + 1 = k1 := ⟨_, rfl⟩
                have hwk : IntKind.i64.wrap ((k : Int) + 1) = (k1 : Int) := by rw [← hk1e]; exact IntWalk.i64_in _ ⟨by omega, by omega⟩
                have hk1m : (k1 : Int) ≤ m := by omega
                have hk2 : (k : Int) ≤ cp := by omega
                have RF := hid (Rs.front L5.out.os k (by omega))
                have K1E := hid hk1e
                clear hk1e
                refine (Classical.em (cp = k1)).elim (fun hcp => ?tight) (fun hcp => ?wide)
                case' tight =>
                  have hcq : (cp = k1) = True := eq_true hcp
                  have RB := hid (show Rs w5 (.slice (some ⟨gb, 0, none⟩) (m - k1) (cp - k1)) (ls.drop k1) by have := Rs.back L5.out.os k1 (some ⟨gb, 0, none⟩) (fun q => by have := HM.out; omega) (cp - k1) (by simp); rw [HM.out] at this; exact this)
                  clear hcp
                case' wide =>
                  have hcq : (cp = k1) = False := eq_false hcp
                  have RB := hid (show Rs w5 (.slice (some ⟨gb, k1, none⟩) (m - k1) (cp - k1)) (ls.drop k1) by have := Rs.back L5.out.os k1 (some ⟨gb, k1, none⟩) (fun _ => rfl) (cp - k1) (by simp); rw [HM.out] at this; exact this)
                  clear hcp
                all_goals (
                go_region_held_law (fun _ => True) (trivial)
                  (first
                    | (have _hh := hI6; refine step_join (by rfl) _ _ (by rfl) 124 (by rfl) w5.heap.size _ _ (ls.take k) (ls.drop k1) (by rfl) hI6 (by rfl) (RB.out.kp K6) (by simp; omega) (by simp; omega) K6.size ?_; intro v7 w7 hI7 hG7)
                    | (refine step_join (by rfl) _ _ (by rfl) 119 (by rfl) w5.heap.size _ _ [] (ls.take k) (by rfl) (Is.nil _ _) (by rfl) (RF.out.kp (Kp.drew _ _)) (by simp) (by simp; omega) (Nat.le_refl _) ?_; intro v6 w6 hI6 hG6; have K6 : Kp w5 w6 [] := (Kp.drew w5 []).trans (Kp.ofGrown hG6 (by intro g hg; simp [Value.ownBlock] at hg)); rw [List.nil_append] at hI6)))
                all_goals (
                  have K7 : Kp w5 w7 [] := K6.past (Kp.ofGrown (rows := v6.ownBlock.toList) hG7 (by intro g hg; simp [hg])) (by intro g hg hl; simp at hg; have := (owns_block hI6 hg).1; omega)
                  have hE : ls.take k ++ ls.drop k1 = ls.take k ++ ls.drop (k + 1) := by rw [K1E.out]
                  rw [hE] at hI7
                  obtain ⟨al7, cp7, hv7⟩ := hI7.slice
                  have HC := hid (L5.out.fresh K7 (owns_low hI7 L5.out.kp.size : Is w7 w.heap.size v7 _))
                  obtain ⟨m7, hm7⟩ : ∃ m7, (ls.take k ++ ls.drop (k + 1)).length = m7 := ⟨_, rfl⟩
                  rw [hm7] at hv7
                  subst hv7
                  have MM := hid (show (ls.take k ++ ls.drop (k + 1)).length = m7 ∧ m7 ≤ i + 1 from ⟨hm7, by rw [← hm7]; simp; have := HM.out; omega⟩)
                  clear hI7 hI6 hG7 hG6 K6 K7 hm7 hE RB RF L5
                  go_wp2_with fail)
              case' noFree =>
                have HC := hid L4.out
                have hcc : ¬ (200 : Int) < (0 : Int) := by omega
                have MM := hid (show ls.length = m ∧ m ≤ i + 1 from ⟨HM.out, by omega⟩)
                clear L4 X4
                refine (Classical.em (0 < m)).elim (fun hm0 => ?isSome) (fun hm0 => ?isNone)
                case' isSome =>
                  have hN1 : sa < 0 := by omega
                  have hm0' : (0 : Int) < m := by omega
                  go_wp2_with fail
                case' isNone =>
                  have hm0' : ¬ (0 : Int) < m := by omega
                  go_wp2_with fail
            case' n3 =>
              have HC := hid L4.out
              have hcc : ¬ (200 : Int) < (0 : Int) := by omega
              have MM := hid (show ls.length = m ∧ m ≤ i + 1 from ⟨HM.out, by omega⟩)
              clear L4 X4
              go_wp2_with fail
      all_goals (
        refine (arena_any _ _ _ _ _ _ _ _ _ HC.out.hp).mono ?_
        rintro e w8 ⟨rfl, hK8⟩
        have H8 := hid (HC.out.same hK8)
        clear hK8 HC
        go_wp2_with fail
        refine (hcost_ok _ _ _ _ _ _ _ _ _ H8.out.hp).mono ?_
        rintro e w9 ⟨rfl, hE⟩
        rw [hE]
        clear hE
        go_wp2
        go_roundw
        case' rel => exact ⟨i + 1, _, _, _, by omega, by simp, rfl, MM.out.2, _, _, _, _, H8.out, MM.out.1, by omega⟩
        case' measure => simp [intOf]; omega)
    · obtain ⟨g, P, ls, c, hL, hm, hc⟩ := hL.out
      have HL := hid hL
      have HM := hid hm
      clear hL hm
      refine (Classical.em (i < N)).elim (fun hq => ?atCap) (fun hq => ?atEnd)
      case' atCap =>
        have hq1 : (i : Int) < N := by omega
        have hq2 : ¬ (i : Int) < 120 := by omega
        go_wp2_with fail
      case' atEnd =>
        have hq1 : ¬ (i : Int) < N := by omega
        go_wp2_with fail
      all_goals (
        go_loopw [13] (fun vj wx => ∃ j : Nat, j ≤ m ∧ vj = .int .i64 j ∧ Hid (∃ (g : Mem) (P : Pcs) (c : Int), c ≤ 200 + 29 * (j : Int) ∧ Lc w wx hb rb mb pb n g P ls (ls.drop j) (.slice al m cp) c)) (fun vj _ => m - (intOf vj).toNat)
        case' atStart => exact ⟨0, Nat.zero_le _, rfl, _, _, c, by simp; omega, HL.out⟩
        case' round =>
          obtain ⟨j, hj, rfl, hJ⟩ := hrel
          obtain ⟨gj, Pj, cj, hcj, hLj⟩ := hJ.out
          by_cases hjm : j < m
          case' neg =>
            have hjI : ¬ (j : Int) < m := by omega
            have hd0 : ls.drop j = [] := List.drop_eq_nil_of_le (by have := HM.out; omega)
            rw [hd0] at hLj
            have hP0 := cs_done hLj.ct
            subst hP0
            have LJ := hid hLj
            clear hLj hJ hd0
            go_wp2_with fail
            refine (left_none _ hb rb mb pb n gj cj HG.out LJ.out.hp).mono ?_
            rintro e w5 ⟨rfl, hK5⟩
            have L5 := hid (LJ.out.same hK5)
            clear hK5 LJ
            go_wp2_with fail
            refine (len_any _ hb rb mb pb n gj cj [] L5.out.hp).mono ?_
            rintro e w6 ⟨rfl, hK6⟩
            have L6 := hid (L5.out.same hK6)
            clear hK6 L5
            go_wp2_with fail
            refine (lawb_any _ (some ⟨hb, 0, none⟩) (bl1 n HG.out) _ 0 (its_heap (L6.out.hp.same (Kp.alloc w6 _ [])) (fun p hp => by cases hp) (by simp) (bl1_eq n HG.out)) (rb1 w6 n HG.out) (by simp [bl1])).mono ?_
            rintro e w7 ⟨rfl, hK7⟩
            have K7 := hid (L6.out.kp.trans ((Kp.alloc w6 _ []).trans hK7))
            clear hK7 L6
            go_wp2
            go_ret
            exact ⟨rfl, K7.out⟩
          case' pos =>
            have hjl : j < ls.length := by have := HM.out; omega
            obtain ⟨o, ho⟩ : ∃ o, ls[j]? = some o := ⟨_, List.getElem?_eq_getElem hjl⟩
            obtain ⟨gb, rfl, -, -, co⟩ := hLj.os.at ho
            have hd0 : (ls.drop j)[0]? = some o := by rw [List.getElem?_drop]; exact ho
            have LJ := hid hLj
            have D0 := hid hd0
            have hjI : (j : Int) < m := by omega
            clear hLj hJ ho hd0
            go_wp2_with fail
            refine (free_got LJ.out (by omega) D0.out).mono ?_
            rintro e w5 ⟨rfl, ⟨g5, P5, c5, h51, h52, hL5⟩, hK5⟩
            have L5 := hid (show Lc w w5 hb rb mb pb n g5 P5 ls (ls.drop (j + 1)) (.slice (some ⟨gb, 0, none⟩) m cp) c5 by simpa using hL5)
            clear hL5 hK5 LJ co
            go_wp2_with (go_at_call 13; refine (num_any _ _).mono ?_; rintro e wn ⟨rfl, hE⟩; rw [hE]; clear hE)
            go_roundw
            case' rel => exact ⟨j + 1, by omega, by simp, _, _, c5, by simp; omega, L5.out⟩
            case' measure => simp [intOf]; omega)
end Go.Proofs.YtgefmnnkpffpcaaGreatDoor
