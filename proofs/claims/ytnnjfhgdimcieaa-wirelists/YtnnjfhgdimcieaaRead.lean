/- (*wire.Reader).next and number: what stands there as a number's form is read, or the error 4 is told. -/
import Derived.Test.YtnnjfhgdimcieaaBase
import Derived.Deep.LoopGhost
import Derived.WalkMore
namespace Go.Proofs.Ytnnjfhgdimcieaa
open Go.RowKit

theorem next_nil (w : World) (rb : Nat) (v : Value) (h : Rd w rb v []) :
    Calls Try.prog 65 #[.pointer (some ⟨rb, 0, none⟩)] w fun e w' => e = .returned (.tuple #[.int .u8 0, .bool false]) ∧ w' = w := by
  obtain ⟨hb, ⟨ao, cap, rfl, -, -, -⟩, -⟩ := h
  have hc0 := cell_two0 hb
  simp only [List.length_nil] at hc0
  clear hb
  go_enter Try.func65, Try.ntmps65
  go_wp2
  go_ret2
  exact ⟨rfl, rfl⟩

/-- The reader behind a store of the rest. -/
theorem rd_set {w : World} {rb : Nat} {v v' : Value} {l l' : List Int} (h : Rd w rb v l) (hv : Bs w v' l') (ho : v'.ownBlock ≠ some rb) : Rd (w.setCell ⟨rb, 0, none⟩ v') rb v' l' := by
  refine ⟨two_setCell h.1, hv.keep fun k hk => Below.heap_setCell _ _ _ _ (fun e => ho ?_), ho⟩
  rw [hk, e]

theorem bs_tail {w : World} {b off cap : Nat} {c : Int} {l : List Int} (h : Bs w (.slice (some ⟨b, off, none⟩) (c :: l).length cap) (c :: l)) :
    Bs w (.slice (some ⟨b, off + 1, none⟩) l.length (cap - 1)) l := by
  obtain ⟨ao, cap', hv, hl, hn, hc⟩ := h
  simp only [Value.slice.injEq, true_and] at hv
  obtain ⟨rfl, rfl⟩ := hv
  obtain ⟨b', off', hb, hcell⟩ := hc (by simp)
  simp only [Option.some.injEq, Addr.mk.injEq, and_true] at hb
  obtain ⟨rfl, rfl⟩ := hb
  simp only [List.length_cons] at hl
  refine ⟨_, _, rfl, by omega, by simp, fun _ => ⟨b, off + 1, rfl, fun i hi => ?_⟩⟩
  have := hcell (i + 1) (by simp; omega)
  rw [show off + 1 + i = off + (i + 1) by omega, this]
  simp
theorem bs_none {w : World} {ao : Option Addr} {l : List Int} (h0 : l.length + 1 ≤ 1) : Bs w (.slice ao l.length 0) l := by
  have : l = [] := List.eq_nil_of_length_eq_zero (by omega)
  subst this
  exact ⟨_, _, rfl, by simp, fun _ => rfl, fun h => absurd rfl h⟩

theorem next_cons (w : World) (rb : Nat) (v : Value) (c : Int) (l : List Int) (h : Rd w rb v (c :: l)) (hm : l.length < 9223372036854775807) :
    Calls Try.prog 65 #[.pointer (some ⟨rb, 0, none⟩)] w fun e w' => e = .returned (.tuple #[.int .u8 c, .bool true]) ∧ ∃ v', w' = w.setCell ⟨rb, 0, none⟩ v' ∧ Rd w' rb v' l ∧ v'.ownBlock = v.ownBlock := by
  have h' := h
  obtain ⟨hb, ⟨ao, cap, rfl, hl, hn, hc⟩, hne⟩ := h
  obtain ⟨b, off, rfl, hcell⟩ := hc (by simp)
  have H := hid h'
  have hc0 := cell_two0 hb
  have hf0 := free_two (i := 0) hb
  have hx := hcell 0 (by simp)
  simp only [List.length_cons, List.getD_cons_zero, Nat.add_zero] at hc0 hx hl
  have hlt : (0 : Int) < (l.length : Int) + 1 := by omega
  have hz : ((l.length : Int) + 1 == 0) = false := by simp; omega
  clear h' hb hn hc hcell hne
  go_enter Try.func65, Try.ntmps65
  go_wp2
  all_goals go_ret2
  · exact ⟨rfl, _, rfl, rd_set H.out (bs_none (by omega)) (fun e => H.out.2.2 (by simpa [Value.ownBlock] using e)), by simp [Value.ownBlock]⟩
  · exact ⟨rfl, _, rfl, rd_set H.out (bs_tail H.out.2.1) (fun e => H.out.2.2 (by simpa [Value.ownBlock] using e)), by simp [Value.ownBlock]⟩

theorem pow128 (i : Nat) : 128 ^ i = 2 ^ (7 * i) := by rw [Nat.pow_mul]
theorem dig_lt (d i : Nat) (hi : i ≤ 9) (hd : d < 128) (h9 : i = 9 → d ≤ 1) : d * 2 ^ (7 * i) < 18446744073709551616 := by
  match i, hi, h9 with
  | 0, _, _ | 1, _, _ | 2, _, _ | 3, _, _ | 4, _, _ | 5, _, _ | 6, _, _ | 7, _, _ | 8, _, _ => simp; omega
  | 9, _, h9 => have := h9 rfl; simp; omega
  | i + 10, hi, _ => omega
theorem acc_lt (acc i : Nat) (ha : acc < 128 ^ i) (hi : i ≤ 9) : acc < 18446744073709551616 := by
  have : 128 ^ i ≤ 128 ^ 9 := Nat.pow_le_pow_right (by decide) hi
  have h9 : 128 ^ 9 = 9223372036854775808 := by decide
  omega
theorem or_join (acc i d : Nat) (ha : acc < 128 ^ i) (hi : i ≤ 9) (hd : d < 128) (h9 : i = 9 → d ≤ 1) :
    bits .or .u64 (acc : Int) (IntKind.u64.wrap ((d : Int) * 2 ^ (7 * i))) = ((acc + d * 128 ^ i : Nat) : Int) := by
  have hlt := dig_lt d i hi hd h9
  have hac := acc_lt acc i ha hi
  have hc : (d : Int) * 2 ^ (7 * i) = ((d * 2 ^ (7 * i) : Nat) : Int) := by simp
  have hw : IntKind.u64.wrap ((d : Int) * 2 ^ (7 * i)) = ((d * 2 ^ (7 * i) : Nat) : Int) := by
    rw [hc]
    exact IntWalk.u64_in _ ⟨by omega, by omega⟩
  rw [hw, u64_or_nat _ _ hac hlt, Nat.or_comm, nat_join (7 * i) _ _ (Nat.mul_mod_left _ _) (by rw [← pow128]; exact ha), pow128, Nat.add_comm]
theorem or_join9 (acc d : Nat) (ha : acc < 128 ^ 9) (hd : d ≤ 1) :
    bits .or .u64 (acc : Int) ((d : Int) * 9223372036854775808) = ((acc + d * 128 ^ 9 : Nat) : Int) := by
  have h := or_join acc 9 d ha (by omega) (by omega) (fun _ => hd)
  rw [← h]
  congr 1
  exact (IntWalk.u64_in _ ⟨by omega, by omega⟩).symm
theorem acc_next (acc i d : Nat) (ha : acc < 128 ^ i) (hd : d < 128) : acc + d * 128 ^ i < 128 ^ (i + 1) := by
  rw [Nat.pow_succ]
  have : d * 128 ^ i ≤ 127 * 128 ^ i := Nat.mul_le_mul_right _ (by omega)
  omega

/-- What stands there as a number's form, behind i digits that made acc: the number, and the rest. -/
def rnum : Nat → Nat → List Int → Option (Nat × List Int)
  | _, _, [] => none
  | i, acc, c :: l => if i = 9 ∧ 1 < c then none else if 0 < i ∧ c = 0 then none else if c < 128 then some (acc + c.toNat * 128 ^ i, l) else rnum (i + 1) (acc + (c.toNat - 128) * 128 ^ i) l

/-- A reader's answer: the number and 0, or 0 and the error 4. -/
def rans (o : Option (Nat × List Int)) : Value := match o with
  | some (n, _) => .tuple #[.int .u64 n, .int .i64 0]
  | none => .tuple #[.int .u64 0, .int .i64 4]

theorem ret_two {a b : Int} {k k' : IntKind} {x : Int} (h : a = b) : Ending.returned (.tuple #[.int k a, .int k' x]) = .returned (.tuple #[.int k b, .int k' x]) := by rw [h]

set_option maxRecDepth 100000 in
set_option maxHeartbeats 400000 in
theorem rnumber_lc (w : World) (rb : Nat) (v : Value) (l : List Int) (h : Rd w rb v l) (hby : Byt l) (hm : l.length < 9223372036854775807) :
    Calls Try.prog 47 #[.pointer (some ⟨rb, 0, none⟩)] w fun e w' => e = .returned (rans (rnum 0 0 l)) ∧ w.grownBy w' (some rb) ∧ ∃ v' l', Rd w' rb v' l' ∧ v'.ownBlock = v.ownBlock ∧ ∀ n r, rnum 0 0 l = some (n, r) → l' = r := by
  have H := hid h
  have Hby := hid hby
  have Hm := hid hm
  clear h hby hm
  go_enter Try.func47, Try.ntmps47
  go_wp2
  go_step3
  go_wp2
  go_step3
  go_wp2
  go_loopw [4, 5] (fun n s wr => ∃ (i acc : Nat) (v' : Value) (lr : List Int), n = .int .u64 acc ∧ s = .int .i64 (7 * i : Nat) ∧ Rd wr rb v' lr ∧ Hid (rnum 0 0 l = rnum i acc lr) ∧ i ≤ 9 ∧ Hid (acc < 128 ^ i) ∧ w.grownBy wr (some rb) ∧ Hid (Byt lr) ∧ Hid (lr.length < 9223372036854775807) ∧ Hid (v'.ownBlock = v.ownBlock))
    (fun _ s _ => 70 - (intOf s).toNat)
  case atStart => exact ⟨0, 0, v, l, rfl, rfl, H.out, rfl, by omega, Nat.zero_lt_one, World.grownBy.refl _ _, Hby.out, Hm.out, rfl⟩
  case round =>
    obtain ⟨i, acc, v', lr, rfl, rfl, hrd, hnum, hi, hacc, hg, hby, hm, hob⟩ := hrel
    have HI := hid hi
    match lr, hrd, hnum, hby, hm with
    | [], hrd, hnum, hby, hm =>
      have HR := hid hrd
      clear hrd
      go_wp2_with (go_at_call 65; refine (next_nil _ rb v' HR.out).mono ?_; rintro e w' ⟨rfl, rfl⟩)
      rw [Exit.noGoto_ret]
      go_ret2
      have hv : rnum 0 0 l = none := hnum.out
      exact ⟨by rw [hv]; rfl, hg, v', [], HR.out, hob.out, by rw [hv]; intro n r h; cases h⟩
    | c :: lr, hrd, hnum, hby, hm =>
      have HR := hid hrd
      clear hrd
      have hcb : 0 ≤ c ∧ c < 256 := hby.out c (by simp)
      obtain ⟨hc0, hc1⟩ := hcb
      by_cases h9 : i = 9 ∧ 1 < c
      · obtain ⟨rfl, h9⟩ := h9
        go_wp2_with (go_at_call 65; refine (next_cons _ rb v' c lr HR.out (by have := hm.out; simp at this; omega)).mono ?_; rintro e w' ⟨rfl, v2, rfl, hrd2, ho2⟩; have HR2 := hid hrd2; have HO2 := hid (ho2.trans hob.out); clear hrd2 ho2)
        rw [Exit.noGoto_ret]
        go_ret2
        have hv : rnum 0 0 l = none := by rw [hnum.out]; simp [rnum, h9]
        exact ⟨by rw [hv]; rfl, grownBy_trans hg (grownBy_setCell _ _ _), v2, lr, HR2.out, HO2.out, by rw [hv]; intro n r h; cases h⟩
      by_cases h0 : 0 < i ∧ c = 0
      · obtain ⟨h0, rfl⟩ := h0
        go_wp2_with (go_at_call 65; refine (next_cons _ rb v' _ lr HR.out (by have := hm.out; simp at this; omega)).mono ?_; rintro e w' ⟨rfl, v2, rfl, hrd2, ho2⟩; have HR2 := hid hrd2; have HO2 := hid (ho2.trans hob.out); clear hrd2 ho2)
        all_goals (try rw [Exit.noGoto_ret])
        all_goals go_ret2
        all_goals
          have hv : rnum 0 0 l = none := by rw [hnum.out]; simp [rnum, h0]
          exact ⟨by rw [hv]; rfl, grownBy_trans hg (grownBy_setCell _ _ _), v2, lr, HR2.out, HO2.out, by rw [hv]; intro n r h; cases h⟩
      obtain ⟨d, rfl⟩ := Int.eq_ofNat_of_zero_le hc0
      by_cases h128 : (d : Int) < 128
      · go_wp2_with (go_at_call 65; refine (next_cons _ rb v' _ lr HR.out (by have := hm.out; simp at this; omega)).mono ?_; rintro e w' ⟨rfl, v2, rfl, hrd2, ho2⟩; have HR2 := hid hrd2; have HO2 := hid (ho2.trans hob.out); clear hrd2 ho2)
        all_goals (try rw [Exit.noGoto_ret])
        all_goals go_ret2
        all_goals
          have hv : rnum 0 0 l = some (acc + d * 128 ^ i, lr) := by rw [hnum.out]; simp only [rnum]; rw [if_neg h9, if_neg h0, if_pos h128]; simp
          refine ⟨?_, grownBy_trans hg (grownBy_setCell _ _ _), v2, lr, HR2.out, HO2.out, by rw [hv]; intro n r h; cases h; rfl⟩
          rw [hv]
          first
          | exact ret_two (or_join acc i d hacc.out HI.out (by omega) (by omega))
          | (have e9 : i = 9 := by omega
             subst e9
             exact ret_two (or_join9 acc d hacc.out (by omega)))
      · obtain ⟨d, rfl⟩ : ∃ d', d = d' + 128 := ⟨d - 128, by omega⟩
        have hv : rnum 0 0 l = rnum (i + 1) (acc + d * 128 ^ i) lr := by rw [hnum.out]; simp only [rnum]; rw [if_neg h9, if_neg h0, if_neg h128, show ((d + 128 : Nat) : Int).toNat - 128 = d by omega]
        have Hv := hid hv
        clear hv
        go_wp2_with (go_at_call 65; refine (next_cons _ rb v' _ lr HR.out (by have := hm.out; simp at this; omega)).mono ?_; rintro e w' ⟨rfl, v2, rfl, hrd2, ho2⟩; have HR2 := hid hrd2; have HO2 := hid (ho2.trans hob.out); clear hrd2 ho2)
        all_goals
          go_roundw
          case rel => exact ⟨i + 1, acc + d * 128 ^ i, v2, lr, congrArg (Value.int .u64) (or_join acc i d hacc.out HI.out (by omega) (by omega)), by go_num, HR2.out, Hv.out, by omega, acc_next acc i d hacc.out (by omega), grownBy_trans hg (grownBy_setCell _ _ _), fun x hx => hby.out x (by simp [hx]), by have := hm.out; simp at this; show lr.length < _; omega, HO2.out⟩
          case measure => simp [intOf]; omega

theorem rnumber_no (w : World) (rb : Nat) (v : Value) (l : List Int) (h : Rd w rb v l) (hby : Byt l) (hm : l.length < 9223372036854775807) (hq : rnum 0 0 l = none) :
    Calls Try.prog 47 #[.pointer (some ⟨rb, 0, none⟩)] w fun e w' => e = .returned (.tuple #[.int .u64 0, .int .i64 4]) ∧ w.grownBy w' (some rb) ∧ ∃ v' l', Rd w' rb v' l' ∧ v'.ownBlock = v.ownBlock := by
  refine (rnumber_lc w rb v l h hby hm).mono ?_
  rintro e w' ⟨rfl, hg, v', l', hr, ho, -⟩
  exact ⟨by rw [hq]; rfl, hg, v', l', hr, ho⟩
theorem rnumber_yes (w : World) (rb : Nat) (v : Value) (l : List Int) (n : Nat) (r : List Int) (h : Rd w rb v l) (hby : Byt l) (hm : l.length < 9223372036854775807) (hq : rnum 0 0 l = some (n, r)) :
    Calls Try.prog 47 #[.pointer (some ⟨rb, 0, none⟩)] w fun e w' => e = .returned (.tuple #[.int .u64 n, .int .i64 0]) ∧ w.grownBy w' (some rb) ∧ ∃ v', Rd w' rb v' r ∧ v'.ownBlock = v.ownBlock := by
  refine (rnumber_lc w rb v l h hby hm).mono ?_
  rintro e w' ⟨rfl, hg, v', l', hr, ho, hl⟩
  obtain rfl := hl n r hq
  exact ⟨by rw [hq]; rfl, hg, v', hr, ho⟩
end Go.Proofs.Ytnnjfhgdimcieaa
