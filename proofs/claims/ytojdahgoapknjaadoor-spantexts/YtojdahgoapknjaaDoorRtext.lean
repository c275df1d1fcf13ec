/- The reference: Text. -/
import Derived.Test.YtojdahgoapknjaaDoorBys
import Derived.Laws.IdiomStrings
import Derived.Lib.Hide
namespace Go.Proofs.YtojdahgoapknjaaDoor
open Go.RowKit Go.Shelf
set_option linter.unusedVariables false

/-- The digits of a number, as numbers. -/
def dg (n : Nat) : List Nat := (Lib.decDigits n).map UInt8.toNat
theorem dg_small {n : Nat} (h : n < 10) : dg n = [48 + n] := by
  unfold dg
  rw [Lib.decDigits, dif_pos h]
  simp; omega
theorem dg_big {n : Nat} (h : ¬ n < 10) : dg n = dg (n / 10) ++ [48 + n % 10] := by
  unfold dg
  rw [Lib.decDigits, dif_neg h]
  simp; omega
/-- What the first loop keeps: the digits laid so far, what is left. -/
def Dl (S : Nat) (l : List Nat) (n : Nat) : Prop := if l = [] then n = S else dg S = (if n = 0 then [] else dg n) ++ l
theorem dl_step {S n : Nat} {l : List Nat} (h : Dl S l n) (hc : 0 < n ∨ l = []) : Dl S ((48 + n % 10) :: l) (n / 10) := by
  unfold Dl at *
  rw [if_neg (by simp)]
  have e : dg n = (if n / 10 = 0 then [] else dg (n / 10)) ++ [48 + n % 10] := by
    by_cases h10 : n < 10
    · rw [dg_small h10, if_pos (by omega), show n % 10 = n by omega]; rfl
    · rw [dg_big h10, if_neg (by omega)]
  by_cases hl : l = []
  · rw [if_pos hl] at h
    rw [← h, e, hl]
  · rw [if_neg hl] at h
    have hn : 0 < n := by rcases hc with h | h; exact h; exact absurd h hl
    rw [if_neg (by omega)] at h
    rw [h, e, List.append_assoc]; rfl
theorem dl_end {S : Nat} {l : List Nat} (h : Dl S l 0) (hl : l ≠ []) : l = dg S := by
  unfold Dl at h
  rw [if_neg hl, if_pos rfl] at h
  exact h.symm
theorem dl_len {S n : Nat} {l : List Nat} (h : Dl S l n) (hS : S < 10000000000) : l.length ≤ 10 := by
  unfold Dl at h
  split at h
  · rename_i e; rw [e]; simp
  · have h1 := congrArg List.length h
    have h2 : (dg S).length ≤ 10 := by unfold dg; rw [List.length_map]; exact dec_le 9 S (by omega)
    rw [List.length_append] at h1
    omega
theorem dl_le {S n : Nat} {l : List Nat} (h : n ≤ S) : n / 10 ≤ S := by omega

theorem wpList_dot {ops : Array Oper} {rest : List Oper} {o : Oper} {a : Act} {W : World} {Q : Exit → Act → World → Prop} (hgd : o.guard = none) (s x : Operand)
    (ho : o.op = .call { callee := .builtin .append, args := #[s, x], argTypes := #[63, 63] }) (base : Nat) (V : Value) (l : List Nat)
    (hs : a.eval s = V) (hown : Ns W base V l) (hx : a.eval x = .slice (some ⟨W.heap.size, 0, none⟩) 1 1) (hm : l.length ≤ 100000) (hb : base ≤ W.heap.size)
    (K : ∀ v' w', Ns w' base v' (l ++ [46]) → (W.alloc (.cells #[.int .u8 46] 5)).grownBy w' V.ownBlock → wpList Tryd.prog ops Q rest (a.put o.dst v') w') :
    wpList Tryd.prog ops Q (o :: rest) a (W.alloc (.cells #[.int .u8 46] 5)) :=
  wpList_push hgd s x ho base V l 46 hs hown hx hm hb K
/-- Nine digits, the greatest first. -/
def t9 (R : Nat) : List Nat := [48 + R / 100000000 % 10, 48 + R / 10000000 % 10, 48 + R / 1000000 % 10, 48 + R / 100000 % 10, 48 + R / 10000 % 10, 48 + R / 1000 % 10, 48 + R / 100 % 10, 48 + R / 10 % 10, 48 + R % 10]
/-- What the second loop keeps: j digits of nine are laid, k is left, d comes next. -/
def Nn (R j k d : Nat) (t : List Nat) : Prop := t = (t9 R).take j ∧ k = R % 10 ^ (9 - j) ∧ d = 1000000000 / 10 ^ (j + 1)
theorem nn_zero {R : Nat} (h : R < 1000000000) : Nn R 0 R 100000000 [] := ⟨by simp, by omega, rfl⟩
theorem nn_step {R j k d : Nat} {t : List Nat} (hj : j < 9) (h : Nn R j k d t) : 0 < d ∧ 48 + k / d < 58 ∧ k / d ≤ 9 ∧ k < 1000000000 ∧ d ≤ 100000000 ∧ Nn R (j + 1) (k % d) (d / 10) (t ++ [48 + k / d]) := by
  obtain ⟨rfl, rfl, rfl⟩ := h
  have hc : j = 0 ∨ j = 1 ∨ j = 2 ∨ j = 3 ∨ j = 4 ∨ j = 5 ∨ j = 6 ∨ j = 7 ∨ j = 8 := by omega
  rcases hc with rfl | rfl | rfl | rfl | rfl | rfl | rfl | rfl | rfl <;> (
    unfold Nn t9
    simp
    omega)
theorem nn_end {R k d : Nat} {t : List Nat} (h : Nn R 9 k d t) : d = 0 ∧ t = t9 R := ⟨by rw [h.2.2], by rw [h.1]; rfl⟩
theorem dg_nine (R : Nat) (h : R < 1000000000) : dg (1000000000 + R) = 49 :: t9 R := by
  rw [dg_big (by omega), dg_big (by omega), dg_big (by omega), dg_big (by omega), dg_big (by omega), dg_big (by omega), dg_big (by omega), dg_big (by omega), dg_big (by omega), dg_small (by omega)]
  unfold t9
  simp
  omega
theorem itoa_nat (n : Nat) : Lib.itoa (n : Int) = Lib.decDigits n := by
  unfold Lib.itoa
  rw [if_neg (by omega)]
  rfl
theorem txt_nat (S R : Nat) (h : R < 1000000000) : (txt (S : Int) (R : Int)).map UInt8.toNat = (dg S ++ [46]) ++ t9 R := by
  unfold txt
  rw [show (1000000000 : Int) + (R : Int) = ((1000000000 + R : Nat) : Int) by omega, itoa_nat, itoa_nat, List.map_append, List.map_append, List.map_drop]
  rw [show (Lib.decDigits (1000000000 + R)).map UInt8.toNat = 49 :: t9 R from dg_nine R h]
  rfl
/-- A span's box is no row of bytes. -/
theorem grown_b {W w' : World} {base p : Nat} {V : Value} {l : List Nat} {o : Obj} {s n : Int} (hN : Ns W base V l) (hG : (W.alloc o).grownBy w' V.ownBlock) (h : Bx W p s n) : Bx w' p s n := by
  have h1 : (W.alloc o).heap[p]? = some (.cells #[.int .i64 s, .int .i64 n] 23 (0, 0)) := (Below.heap_alloc _ _ _ (lt_of_block h)).trans h
  refine (hG.block p (lt_of_block h1) (fun e => ?_)).trans h1
  obtain ⟨-, cur, hc⟩ := owns_block hN.1 e.symm
  rw [show W.heap[p]? = _ from h] at hc
  simp at hc

set_option maxRecDepth 100000 in
set_option maxHeartbeats 4000000 in
theorem rtext_ok (w : World) (S R : Nat) (hS : S ≤ 2147483647) (hR : R < 1000000000) : Calls Tryd.prog 28 #[sp (S : Int) (R : Int)] w fun x w' => x = .returned (.string ⟨(txt (S : Int) (R : Int)).toArray⟩) ∧ Kp w w' [] := by
  have P0 := hid (bx_new w S R)
  have K0 := hid (Kp.alloc w (ob S R) [])
  go_enter Tryd.func28, Tryd.ntmps28
  go_wp2
  obtain ⟨W0, hW0⟩ : ∃ W0, w.alloc (ob S R) = W0 := ⟨_, rfl⟩
  rw [hW0] at P0 K0
  simp only [hW0]
  clear hW0
  go_loopw [3, 4] (fun vb vn W => ∃ (n n1 cp : Nat) (ao : Option Addr) (l : List Nat), n ≤ S ∧ Hid (n1 = l.length) ∧ vb = .slice ao n1 cp ∧ vn = .int .i64 n ∧ Hid (Dl S l n) ∧ Hid (Ns W w.heap.size (.slice ao n1 cp) l) ∧ Hid (Kp W0 W [])) (fun vb vn _ => (intOf vn).toNat + (match vb with | .slice _ n _ => if n = 0 then 1 else 0 | _ => 0))
  case atStart => exact ⟨S, 0, 0, none, [], Nat.le_refl _, rfl, rfl, rfl, hid (by unfold Dl; simp), Ns.nil _ _, Kp.refl _ _⟩
  case round =>
    obtain ⟨n, n1, cp, ao, l, hn, hn1, rfl, rfl, hD, hN, hK⟩ := hrel
    have hl10 := dl_len hD.out (by omega)
    by_cases hc : 0 < n ∨ l = []
    · obtain ⟨x, hx⟩ : ∃ x : Nat, 48 + n % 10 = x := ⟨_, rfl⟩
      have HS := hid (hx ▸ dl_step hD.out hc)
      have x1 : (n : Int).tmod 10 = (n : Int) % 10 := Int.tmod_eq_emod_of_nonneg (by omega)
      have x2 : IntKind.u8.wrap (48 + (n : Int) % 10) = (x : Int) := by rw [← hx, IntWalk.u8_in _ ⟨by omega, by omega⟩]; omega
      obtain ⟨q, hq⟩ : ∃ q : Nat, n / 10 = q := ⟨_, rfl⟩
      rw [hq] at HS
      have x3 : (n : Int).tdiv 10 = (q : Int) := by rw [Int.tdiv_eq_ediv_of_nonneg (by omega)]; omega
      have x4 : IntKind.i64.wrap (q : Int) = (q : Int) := wrap_id ⟨by omega, by omega⟩
      have x5 : (n : Int) / 10 = (q : Int) := by omega
      have hqn : q ≤ n ∧ (0 < n → q < n) := by omega
      have HQ := hid hq
      clear hq
      have hx8 : x < 256 := by omega
      clear hx
      by_cases hp : 0 < n
      · have hpI : (0 : Int) < (n : Int) := by omega
        have hpD : decide ((0 : Int) < (n : Int)) = true := by simp; omega
        go_wp2_with (refine wpList_join rfl (.tmp 20) (.tmp 21) rfl wr.heap.size w.heap.size _ _ [x] l rfl (Ns.one wr x) rfl (by have := hN.out.keep (Kp.alloc wr (.cells #[.int .u8 (x : Nat)] 5) []); exact this) (by simp) (by omega) (by simp) ?_; intro v' w' hN' hG'; obtain ⟨ao', cp', hv'⟩ := hN'.slice; rw [show ([x] ++ l).length = n1 + 1 by have := hn1.out; simp; omega] at hv'; subst hv'; have HN2 := hid (hN'.low (show w.heap.size ≤ wr.heap.size from Nat.le_trans K0.out.size hK.out.size)); have HK2 := hid (grown_over (Ns.one wr x) hG' (hK.out.trans (Kp.alloc wr (.cells #[.int .u8 (x : Nat)] 5) [])) hK.out.size); clear hN' hG')
        go_wp2
        go_roundw
        case rel => exact ⟨q, n1 + 1, cp', ao', x :: l, by omega, hid (by have := hn1.out; simp; omega), rfl, rfl, HS, HN2, HK2⟩
        case measure => simp [intOf]; omega
      · have hl0 : l = [] := by rcases hc with h | h; exact absurd h hp; exact h
        have hpD : decide ((0 : Int) < (n : Int)) = false := by simp; omega
        have hpI : ¬ (0 : Int) < (n : Int) := by omega
        have h1z : ((n1 : Int) == 0) = true := by have := hn1.out; rw [hl0] at this; simp at this; simp [this]
        have h1y : (n1 : Int) = 0 := by have := hn1.out; rw [hl0] at this; simp at this; simp [this]
        have HZ := hid h1y
        clear h1y
        have HL0 := hid hl0
        clear hl0
        go_wp2_with (refine wpList_join rfl (.tmp 20) (.tmp 21) rfl wr.heap.size w.heap.size _ _ [x] l rfl (Ns.one wr x) rfl (by have := hN.out.keep (Kp.alloc wr (.cells #[.int .u8 (x : Nat)] 5) []); exact this) (by simp) (by omega) (by simp) ?_; intro v' w' hN' hG'; obtain ⟨ao', cp', hv'⟩ := hN'.slice; rw [show ([x] ++ l).length = n1 + 1 by have := hn1.out; simp; omega] at hv'; subst hv'; have HN2 := hid (hN'.low (show w.heap.size ≤ wr.heap.size from Nat.le_trans K0.out.size hK.out.size)); have HK2 := hid (grown_over (Ns.one wr x) hG' (hK.out.trans (Kp.alloc wr (.cells #[.int .u8 (x : Nat)] 5) [])) hK.out.size); clear hN' hG')
        go_wp2
        go_roundw
        case rel => exact ⟨q, n1 + 1, cp', ao', x :: l, by omega, hid (by have := hn1.out; simp; omega), rfl, rfl, HS, HN2, HK2⟩
        case measure =>
          have h0 : n1 = 0 := by have := HZ.out; omega
          simp [intOf, h0]
          omega
    · have hn0 : n = 0 := by omega
      have hl0 : l ≠ [] := fun h => hc (Or.inr h)
      have hE := dl_end (hn0 ▸ hD.out) hl0
      have h1p : 0 < n1 := by
        have := hn1.out
        have h2 : l.length ≠ 0 := fun h => hl0 (List.length_eq_zero_iff.1 h)
        omega
      have h1e : ((n1 : Int) == 0) = false := by simp; omega
      have h1f : ¬ (n1 : Int) = 0 := by omega
      have HE := hid hE
      subst hn0
      clear hc hE hl0
      have hwb : w.heap.size ≤ wr.heap.size := Nat.le_trans K0.out.size hK.out.size
      go_wp2_with (refine wpList_dot (W := wr) rfl (.tmp 25) (.tmp 26) rfl w.heap.size (.slice ao n1 cp) l rfl hN.out rfl (by omega) hwb ?_; intro v' w' hN' hG'; refine Hid.out ?_)
      refine Lib.hid ?_
      obtain ⟨ao', cp', hv'⟩ := hN'.slice
      have e46 : (l ++ [46] : List Nat).length = n1 + 1 := by have := hn1.out; simp; omega
      rw [e46] at hv'
      subst hv'
      have HN2 := hid hN'
      have HK2 := hid (grown_kp hN.out hG' (K0.out.trans hK.out) (Nat.le_refl _))
      have PB := hid (grown_b hN.out hG' (P0.out.keep hK.out))
      have y1 := PB.out.c1
      clear hN' hG'
      go_wp2
      have H46 := hid (show (l ++ [46] : List Nat) = dg S ++ [46] by rw [HE.out])
      have h12 : n1 + 1 ≤ 11 := by have := hn1.out; omega
      have HL := hid e46
      obtain ⟨pl, hpl⟩ : ∃ pl : List Nat, l ++ [46] = pl := ⟨_, rfl⟩
      rw [hpl] at HN2 H46 HL
      obtain ⟨m1, hm1⟩ : ∃ m1, n1 + 1 = m1 := ⟨_, rfl⟩
      simp only [hm1] at *
      clear hm1 hpl hN hn1 hD hK y1 e46
      go_loopw [3, 5, 6] (fun vb vk vd W => ∃ (j n2 cp2 k d : Nat) (ao2 : Option Addr) (t : List Nat), j ≤ 9 ∧ Hid (n2 = m1 + j) ∧ vb = .slice ao2 n2 cp2 ∧ vk = .int .i64 k ∧ vd = .int .i64 d ∧ Hid (Nn R j k d t) ∧ Hid (Ns W w.heap.size (.slice ao2 n2 cp2) (pl ++ t)) ∧ Hid (Kp w W [])) (fun _ _ vd _ => (intOf vd).toNat)
      case atStart => exact ⟨0, m1, cp', R, 100000000, ao', [], by decide, rfl, rfl, rfl, rfl, nn_zero hR, hid (by simpa using HN2.out), HK2⟩
      case round =>
        obtain ⟨j, n2, cp2, k, d, ao2, t, hj, hn2, rfl, rfl, rfl, hT, hN, hK⟩ := hrel
        by_cases hj9 : j < 9
        · obtain ⟨d0, kd, kd9, kb, db, hT'⟩ := nn_step hj9 hT.out
          obtain ⟨x, hx⟩ : ∃ x : Nat, 48 + k / d = x := ⟨_, rfl⟩
          obtain ⟨k', hk'⟩ : ∃ k' : Nat, k % d = k' := ⟨_, rfl⟩
          obtain ⟨d', hd'⟩ : ∃ d' : Nat, d / 10 = d' := ⟨_, rfl⟩
          rw [hx, hk', hd'] at hT'
          obtain ⟨q, hq⟩ : ∃ q : Nat, k / d = q := ⟨_, rfl⟩
          have x1 : (k : Int).tdiv (d : Int) = (q : Int) := by rw [Int.tdiv_eq_ediv_of_nonneg (by omega), ← hq]; simp
          have x1e : (k : Int) / (d : Int) = (q : Int) := by rw [← hq]; simp
          have x2 : (k : Int).tmod (d : Int) = (k' : Int) := by rw [Int.tmod_eq_emod_of_nonneg (by omega), ← hk']; simp
          have x2e : (k : Int) % (d : Int) = (k' : Int) := by rw [← hk']; simp
          have x3 : (d : Int).tdiv 10 = (d' : Int) := by rw [Int.tdiv_eq_ediv_of_nonneg (by omega), ← hd']; simp
          have x3e : (d : Int) / 10 = (d' : Int) := by rw [← hd']; simp
          have bq : q ≤ 9 ∧ x = 48 + q ∧ k' < 1000000000 ∧ d' ≤ 100000000 ∧ d' < d := by
            refine ⟨by omega, by omega, ?_, by omega, by omega⟩
            have := Nat.mod_le k d
            omega
          have x4 : IntKind.u8.wrap (48 + (q : Int)) = (x : Int) := by rw [IntWalk.u8_in _ ⟨by omega, by omega⟩]; omega
          have x5 : IntKind.i64.wrap (q : Int) = (q : Int) := wrap_id ⟨by omega, by omega⟩
          have x6 : IntKind.i64.wrap (k' : Int) = (k' : Int) := wrap_id ⟨by omega, by omega⟩
          have x7 : IntKind.i64.wrap (d' : Int) = (d' : Int) := wrap_id ⟨by omega, by omega⟩
          have x8 : IntKind.i64.wrap (48 + (q : Int)) = 48 + (q : Int) := wrap_id ⟨by omega, by omega⟩
          have dI : (0 : Int) < (d : Int) := by omega
          have dD : decide ((0 : Int) < (d : Int)) = true := by simp; omega
          have dE : ((d : Int) == 0) = false := by simp; omega
          have dF : ¬ (d : Int) = 0 := by omega
          have HT' := hid hT'
          have HT := hid bq
          have hwb : w.heap.size ≤ wr.heap.size := hK.out.size
          have hlen : (pl ++ t).length ≤ 1000 := by
            have h1 := HL.out
            have h2 := congrArg List.length hT.out.1
            rw [List.length_take] at h2
            rw [List.length_append]
            omega
          clear hx hk' hd' hq hT' bq kd kd9
          go_wp2_with (refine wpList_push (W := wr) rfl (.tmp 34) (.tmp 40) rfl w.heap.size (.slice ao2 n2 cp2) (pl ++ t) x rfl hN.out rfl (by omega) hwb ?_; intro v' w' hN' hG'; refine Hid.out ?_)
          refine Lib.hid ?_
          obtain ⟨ao3, cp3, hv'⟩ := hN'.slice
          have e3 : ((pl ++ t) ++ [x] : List Nat).length = n2 + 1 := by
            have h1 := HL.out
            have h2 := congrArg List.length hT.out.1
            rw [List.length_take] at h2
            have h3 := hn2.out
            have h4 : (t9 R).length = 9 := rfl
            rw [List.length_append, List.length_append]
            simp
            omega
          rw [e3] at hv'
          subst hv'
          have HN3 := hid hN'
          have HK3 := hid (grown_kp hN.out hG' hK.out (Nat.le_refl _))
          clear hN' hG' e3
          go_wp2
          go_roundw
          case rel => exact ⟨j + 1, n2 + 1, cp3, k', d', ao3, t ++ [x], by omega, hid (by have := hn2.out; omega), rfl, rfl, rfl, HT', hid (by have := HN3.out; rwa [List.append_assoc] at this), HK3⟩
          case measure => have := HT.out; simp [intOf]; omega
        · have hj' : j = 9 := by omega
          subst hj'
          obtain ⟨hd0, ht⟩ := nn_end hT.out
          subst hd0
          have hU : pl ++ t = (txt (S : Int) (R : Int)).map UInt8.toNat := by rw [H46.out, ht]; exact (txt_nat S R hR).symm
          have HN4 := hN.out
          rw [hU] at HN4
          have hnl : n2 = (txt (S : Int) (R : Int)).length := by
            have h1 := HN4.1.1
            have h2 := hn2.out
            have h3 := HL.out
            have h4 := congrArg List.length hU
            rw [ht, List.length_append, List.length_map] at h4
            have h5 : (t9 R).length = 9 := rfl
            omega
          obtain ⟨U, hUU⟩ : ∃ U, txt (S : Int) (R : Int) = U := ⟨_, rfl⟩
          rw [hUU] at HN4 hnl
          have hp0 : 0 < U.length := by
            have h2 := hn2.out
            omega
          rcases HN4.1.2 with ⟨-, h0⟩ | ⟨g, cap, cur, hv, -⟩
          · simp at h0
            have h0' : U.length = 0 := by rw [h0]; rfl
            omega
          · simp only [Value.slice.injEq] at hv
            obtain ⟨rfl, -, rfl⟩ := hv
            have hcv := run_convert_bytes_back (P := Tryd.prog) wr 63 9 5 ⟨g, 0, none⟩ cp2 U Tryd.underlying63 Tryd.underlying5 Tryd.underlying9 (fun j hj => HN4.cells j _ (by simp [ni, hj]))
            rw [← hnl] at hcv
            have HKF := hid hK.out
            have HUF := hid hUU
            clear hnl hU hUU HN4 hp0
            go_wp2
            go_ret
            exact ⟨by rw [HUF.out]; rfl, HKF.out⟩
end Go.Proofs.YtojdahgoapknjaaDoor
