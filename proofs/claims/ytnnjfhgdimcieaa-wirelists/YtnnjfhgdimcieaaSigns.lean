/- (*wire.Reader).Signed and Flag: all of it, or nothing. -/
import Derived.Test.YtnnjfhgdimcieaaPlain
namespace Go.Proofs.Ytnnjfhgdimcieaa
open Go.RowKit

set_option maxRecDepth 100000 in
set_option maxHeartbeats 400000 in
theorem rSigned_no (w : World) (rb : Nat) (v : Value) (l : List Int) (h : Rd w rb v l) (hby : Byt l) (hm : l.length < 9223372036854775807) (hq : rnum 0 0 l = none) :
    Calls Try.prog 26 #[.pointer (some ⟨rb, 0, none⟩)] w fun e w' => e = .returned (.tuple #[.int .i64 0, .int .i64 4]) ∧ w.grownBy w' (some rb) ∧ Rd w' rb v l := by
  obtain ⟨ao, cap, rfl⟩ := h.shape
  have H := hid h
  have Hby := hid hby
  have Hm := hid hm
  have Hq := hid hq
  have hc0 := cell_two0 h.1
  have hc1 := cell_two1 h.1
  have hf0 := free_two (i := 0) h.1
  have hf1 := free_two (i := 1) h.1
  have hlt := lt_of_block h.1
  clear h hby hm hq
  go_enter Try.func26, Try.ntmps26
  go_wp2_with (first | (go_at_call 47; refine (rnumber_no _ rb _ l (H.out.alloc _) Hby.out Hm.out Hq.out).mono ?_; rintro e w1 ⟨rfl, hg1, v1, l1, hr1, -⟩; have k0 := cell_two0 hr1.1; have k1 := cell_two1 hr1.1; have k2 := free_two (i := 0) hr1.1; have k3 := free_two (i := 1) hr1.1; have k4 := kept_two hg1 hlt; have k5 := cell_two0 k4; have k6 := cell_two1 k4; have HR := hid hr1; have HG := hid hg1; clear hr1 hg1 k4) | go_in)
  go_ret2
  exact ⟨rfl, grown_back HG.out, rd_back H.out HG.out HR.out⟩

theorem half_wrap (n : Nat) (hn : n < 18446744073709551616) : IntKind.i64.wrap ((n : Int) / 2) = ((n / 2 : Nat) : Int) := by
  simp [IntKind.wrap, IntKind.bits, IntKind.signed]
  omega

set_option maxRecDepth 100000 in
set_option maxHeartbeats 400000 in
theorem rSigned_yes (w : World) (rb : Nat) (v : Value) (l : List Int) (n : Nat) (r : List Int) (h : Rd w rb v l) (hby : Byt l) (hm : l.length < 9223372036854775807) (hq : rnum 0 0 l = some (n, r)) :
    Calls Try.prog 26 #[.pointer (some ⟨rb, 0, none⟩)] w fun e w' => e = .returned (.tuple #[.int .i64 (unf n), .int .i64 0]) ∧ w.grownBy w' (some rb) ∧ ∃ v', Rd w' rb v' r ∧ v'.ownBlock = v.ownBlock := by
  obtain ⟨ao, cap, rfl⟩ := h.shape
  have H := hid h
  have Hby := hid hby
  have Hm := hid hm
  have Hq := hid hq
  have hc0 := cell_two0 h.1
  have hc1 := cell_two1 h.1
  have Hn := hid (rnum_bound hby (by omega) Nat.zero_lt_one hq)
  clear h hby hm hq
  have hnb : (n : Int) / 2 ≤ 9223372036854775807 := by have := Hn.out; omega
  by_cases hp : n % 2 = 1
  · have hp' : (n : Int) % 2 = 1 := by omega
    have hu := hid (show bits .xor .i64 (-1) ((n : Int) / 2) = unf n by unfold unf; rw [if_pos hp, not_i64 _ (by omega) hnb]; omega)
    clear hp
    go_enter Try.func26, Try.ntmps26
    go_wp2_with (first | (go_at_call 47; refine (rnumber_yes _ rb _ l n r (H.out.alloc _) Hby.out Hm.out Hq.out).mono ?_; rintro e w1 ⟨rfl, hg1, v1, hr1, ho1⟩; have HB := hid ho1; clear ho1; have HR := hid hr1; have HG := hid hg1; clear hr1 hg1) | go_in)
    go_ret2
    exact ⟨ret_two hu.out, grownBy_trans (grownBy_mono (World.grownBy_alloc w _ none)) HG.out, v1, HR.out, HB.out⟩
  · have hp' : ((n : Int) % 2 == 1) = false := by simp; omega
    have hu := hid (show (n : Int) / 2 = unf n by unfold unf; rw [if_neg hp]; omega)
    clear hp
    go_enter Try.func26, Try.ntmps26
    go_wp2_with (first | (go_at_call 47; refine (rnumber_yes _ rb _ l n r (H.out.alloc _) Hby.out Hm.out Hq.out).mono ?_; rintro e w1 ⟨rfl, hg1, v1, hr1, ho1⟩; have HB := hid ho1; clear ho1; have HR := hid hr1; have HG := hid hg1; clear hr1 hg1) | go_in)
    go_ret2
    exact ⟨ret_two hu.out, grownBy_trans (grownBy_mono (World.grownBy_alloc w _ none)) HG.out, v1, HR.out, HB.out⟩

/-- A flag that stands there, and the rest. -/
def rflag : List Int → Option (Bool × List Int)
  | [] => none
  | c :: l => if 1 < c then none else some (decide (c = 1), l)

set_option maxRecDepth 100000 in
set_option maxHeartbeats 400000 in
theorem flag_no (w : World) (rb : Nat) (v : Value) (l : List Int) (h : Rd w rb v l) (hm : l.length < 9223372036854775807) (hq : rflag l = none) :
    Calls Try.prog 54 #[.pointer (some ⟨rb, 0, none⟩)] w fun e w' => e = .returned (.tuple #[.bool false, .int .i64 4]) ∧ w.grownBy w' (some rb) ∧ ∃ v' l', Rd w' rb v' l' := by
  match l, h, hm, hq with
  | [], h, hm, hq =>
    have H := hid h
    clear h hm hq
    go_enter Try.func54, Try.ntmps54
    go_wp2_with (go_at_call 65; refine (next_nil _ rb _ H.out).mono ?_; rintro e w1 ⟨rfl, rfl⟩)
    go_ret2
    exact ⟨rfl, World.grownBy.refl _ _, _, _, H.out⟩
  | c :: l, h, hm, hq =>
    have H := hid h
    have Hm := hid hm
    have hc : 1 < c := by simp only [rflag] at hq; split at hq <;> simp_all
    clear h hm hq
    go_enter Try.func54, Try.ntmps54
    go_wp2_with (go_at_call 65; refine (next_cons _ rb _ c l H.out (by have := Hm.out; simp at this; omega)).mono ?_; rintro e w1 ⟨rfl, v1, rfl, hr1, -⟩; have HR := hid hr1; clear hr1)
    go_ret2
    exact ⟨rfl, grownBy_setCell _ ⟨rb, 0, none⟩ _, _, _, HR.out⟩

set_option maxRecDepth 100000 in
set_option maxHeartbeats 400000 in
theorem flag_yes (w : World) (rb : Nat) (v : Value) (l : List Int) (b : Bool) (r : List Int) (h : Rd w rb v l) (hby : Byt l) (hm : l.length < 9223372036854775807) (hq : rflag l = some (b, r)) :
    Calls Try.prog 54 #[.pointer (some ⟨rb, 0, none⟩)] w fun e w' => e = .returned (.tuple #[.bool b, .int .i64 0]) ∧ w.grownBy w' (some rb) ∧ ∃ v', Rd w' rb v' r ∧ v'.ownBlock = v.ownBlock := by
  match l, h, hby, hm, hq with
  | [], h, hby, hm, hq => simp [rflag] at hq
  | c :: l, h, hby, hm, hq =>
    simp only [rflag] at hq
    split at hq
    · cases hq
    · rename_i hc
      simp only [Option.some.injEq, Prod.mk.injEq] at hq
      obtain ⟨rfl, rfl⟩ := hq
      obtain ⟨c0, -⟩ := hby c (by simp)
      have h01 : c = 0 ∨ c = 1 := by omega
      have H := hid h
      have Hm := hid hm
      clear hby h hm hc c0
      rcases h01 with rfl | rfl
      all_goals
        go_enter Try.func54, Try.ntmps54
        go_wp2_with (go_at_call 65; refine (next_cons _ rb _ _ l H.out (by have := Hm.out; simp at this; omega)).mono ?_; rintro e w1 ⟨rfl, v1, rfl, hr1, ho1⟩; have HR := hid hr1; have HB := hid ho1; clear hr1 ho1)
        go_ret2
        exact ⟨rfl, grownBy_setCell _ ⟨rb, 0, none⟩ _, v1, HR.out, HB.out⟩

set_option maxRecDepth 100000 in
set_option maxHeartbeats 400000 in
theorem rFlag_no (w : World) (rb : Nat) (v : Value) (l : List Int) (h : Rd w rb v l) (hm : l.length < 9223372036854775807) (hq : rflag l = none) :
    Calls Try.prog 28 #[.pointer (some ⟨rb, 0, none⟩)] w fun e w' => e = .returned (.tuple #[.bool false, .int .i64 4]) ∧ w.grownBy w' (some rb) ∧ Rd w' rb v l := by
  obtain ⟨ao, cap, rfl⟩ := h.shape
  have H := hid h
  have Hm := hid hm
  have Hq := hid hq
  have hc0 := cell_two0 h.1
  have hc1 := cell_two1 h.1
  have hf0 := free_two (i := 0) h.1
  have hf1 := free_two (i := 1) h.1
  have hlt := lt_of_block h.1
  clear h hm hq
  go_enter Try.func28, Try.ntmps28
  go_wp2_with (first | (go_at_call 54; refine (flag_no _ rb _ l (H.out.alloc _) Hm.out Hq.out).mono ?_; rintro e w1 ⟨rfl, hg1, v1, l1, hr1⟩; have k0 := cell_two0 hr1.1; have k1 := cell_two1 hr1.1; have k2 := free_two (i := 0) hr1.1; have k3 := free_two (i := 1) hr1.1; have k4 := kept_two hg1 hlt; have k5 := cell_two0 k4; have k6 := cell_two1 k4; have HR := hid hr1; have HG := hid hg1; clear hr1 hg1 k4) | go_in)
  go_ret2
  exact ⟨rfl, grown_back HG.out, rd_back H.out HG.out HR.out⟩

set_option maxRecDepth 100000 in
set_option maxHeartbeats 400000 in
theorem rFlag_yes (w : World) (rb : Nat) (v : Value) (l : List Int) (b : Bool) (r : List Int) (h : Rd w rb v l) (hby : Byt l) (hm : l.length < 9223372036854775807) (hq : rflag l = some (b, r)) :
    Calls Try.prog 28 #[.pointer (some ⟨rb, 0, none⟩)] w fun e w' => e = .returned (.tuple #[.bool b, .int .i64 0]) ∧ w.grownBy w' (some rb) ∧ ∃ v', Rd w' rb v' r ∧ v'.ownBlock = v.ownBlock := by
  obtain ⟨ao, cap, rfl⟩ := h.shape
  have H := hid h
  have Hby := hid hby
  have Hm := hid hm
  have Hq := hid hq
  have hc0 := cell_two0 h.1
  have hc1 := cell_two1 h.1
  clear h hby hm hq
  go_enter Try.func28, Try.ntmps28
  go_wp2_with (first | (go_at_call 54; refine (flag_yes _ rb _ l b r (H.out.alloc _) Hby.out Hm.out Hq.out).mono ?_; rintro e w1 ⟨rfl, hg1, v1, hr1, ho1⟩; have HB := hid ho1; clear ho1; have HR := hid hr1; have HG := hid hg1; clear hr1 hg1) | go_in)
  go_ret2
  exact ⟨rfl, grownBy_trans (grownBy_mono (World.grownBy_alloc w _ none)) HG.out, v1, HR.out, HB.out⟩

theorem rflag_flag (b : Bool) (r : List Int) : rflag (flagN b ++ r) = some (b, r) := by cases b <;> simp [rflag, flagN]
end Go.Proofs.Ytnnjfhgdimcieaa
