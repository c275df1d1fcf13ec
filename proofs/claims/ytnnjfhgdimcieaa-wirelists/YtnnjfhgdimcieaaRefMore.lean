/- The reference reader: Left, Signed. -/
import Derived.Test.YtnnjfhgdimcieaaRef
namespace Go.Proofs.Ytnnjfhgdimcieaa
open Go.RowKit

theorem fNumber_no (w : World) (db : Nat) (vb : Value) (at0 : Nat) (b : List Int) (h : Rf w db vb at0 b) (hby : Byt b) (hm : b.length ≤ 140737488351232) (hq : rnum 0 0 (b.drop at0) = none) :
    Calls Try.prog 39 #[.pointer (some ⟨db, 0, none⟩)] w fun e w' => e = .returned (.tuple #[.int .u64 0, .int .i64 4]) ∧ w.grownBy w' (some db) ∧ Rf w' db vb at0 b := by
  refine (fNumber_lc w db vb at0 b h hby hm).mono ?_
  rintro e w' ⟨rfl, hg, at1, hr, h1, -⟩
  obtain rfl := h1 hq
  exact ⟨by rw [hq]; rfl, hg, hr⟩
theorem fNumber_yes (w : World) (db : Nat) (vb : Value) (at0 : Nat) (b : List Int) (n : Nat) (r : List Int) (h : Rf w db vb at0 b) (hby : Byt b) (hm : b.length ≤ 140737488351232) (hq : rnum 0 0 (b.drop at0) = some (n, r)) :
    Calls Try.prog 39 #[.pointer (some ⟨db, 0, none⟩)] w fun e w' => e = .returned (.tuple #[.int .u64 n, .int .i64 0]) ∧ w.grownBy w' (some db) ∧ ∃ at1, Rf w' db vb at1 b ∧ b.drop at1 = r := by
  refine (fNumber_lc w db vb at0 b h hby hm).mono ?_
  rintro e w' ⟨rfl, hg, at1, hr, -, h2⟩
  exact ⟨by rw [hq]; rfl, hg, at1, hr, h2 n r hq⟩

set_option maxRecDepth 100000 in
theorem fLeft_any (w : World) (db : Nat) (vb : Value) (at0 : Nat) (b : List Int) (h : Rf w db vb at0 b) (hm : b.length ≤ 140737488351232) :
    Calls Try.prog 22 #[.pointer (some ⟨db, 0, none⟩)] w fun e w' => e = .returned (.int .i64 ((b.drop at0).length : Nat)) ∧ ∃ n, w' = w.drewN n := by
  obtain ⟨ao, cap, rfl, hl⟩ := h.shape
  have k0 := cell_two0 h.1
  have k1 := cell_two1 h.1
  have hat := h.2.2.2
  have hmI : (b.length : Int) ≤ 140737488351232 := by omega
  have hatI : (at0 : Int) ≤ (b.length : Int) := by omega
  have HE := hid (show (b.length : Int) - (at0 : Int) = ((b.drop at0).length : Nat) by simp; omega)
  obtain ⟨L, hL⟩ : ∃ L : Nat, L = (b.drop at0).length := ⟨_, rfl⟩
  rw [← hL] at HE ⊢
  clear h hL
  go_enter Try.func22, Try.ntmps22
  go_wp2_with fail
  go_quiet (fail)
  go_wp2
  go_ret
  exact ⟨congrArg (fun x => Ending.returned (.int .i64 x)) HE.out, _, rfl⟩

set_option maxRecDepth 100000 in
theorem fSigned_no (w : World) (db : Nat) (vb : Value) (at0 : Nat) (b : List Int) (h : Rf w db vb at0 b) (hby : Byt b) (hm : b.length ≤ 140737488351232) (hq : rnum 0 0 (b.drop at0) = none) :
    Calls Try.prog 40 #[.pointer (some ⟨db, 0, none⟩)] w fun e w' => e = .returned (.tuple #[.int .i64 0, .int .i64 4]) ∧ w.grownBy w' (some db) ∧ Rf w' db vb at0 b := by
  have H := hid h
  have Hby := hid hby
  have Hm := hid hm
  have Hq := hid hq
  clear h hby hm hq
  go_enter Try.func40, Try.ntmps40
  go_wp2_with (first | (go_at_call 39; refine (fNumber_no _ db _ at0 b H.out Hby.out Hm.out Hq.out).mono ?_; rintro e w1 ⟨rfl, hg1, hr1⟩; have HG := hid hg1; have HR := hid hr1; clear hg1 hr1) | go_in)
  go_ret2
  exact ⟨rfl, HG.out, HR.out⟩

set_option maxRecDepth 100000 in
theorem unfolded_any (n : Nat) (w : World) (hn : n < 18446744073709551616) :
    Calls Try.prog 61 #[.int .u64 n] w fun e w' => e = .returned (.int .i64 (unf n)) ∧ w' = w := by
  have Hn := hid hn
  have hnb : (n : Int) / 2 ≤ 9223372036854775807 := by omega
  clear hn
  by_cases hp : n % 2 = 1
  · have hp' : (n : Int) % 2 = 1 := by omega
    have hu := hid (show -((n : Int) / 2) - 1 = unf n by unfold unf; rw [if_pos hp]; omega)
    clear hp
    go_enter Try.func61, Try.ntmps61
    go_wp2
    go_ret
    exact ⟨congrArg (fun x => Ending.returned (.int .i64 x)) hu.out, rfl⟩
  · have hp' : ((n : Int) % 2 == 1) = false := by simp; omega
    have hu := hid (show (n : Int) / 2 = unf n by unfold unf; rw [if_neg hp]; omega)
    clear hp
    go_enter Try.func61, Try.ntmps61
    go_wp2
    go_ret
    exact ⟨congrArg (fun x => Ending.returned (.int .i64 x)) hu.out, rfl⟩

set_option maxRecDepth 100000 in
theorem fSigned_yes (w : World) (db : Nat) (vb : Value) (at0 : Nat) (b : List Int) (n : Nat) (r : List Int) (h : Rf w db vb at0 b) (hby : Byt b) (hm : b.length ≤ 140737488351232) (hq : rnum 0 0 (b.drop at0) = some (n, r)) :
    Calls Try.prog 40 #[.pointer (some ⟨db, 0, none⟩)] w fun e w' => e = .returned (.tuple #[.int .i64 (unf n), .int .i64 0]) ∧ w.grownBy w' (some db) ∧ ∃ at1, Rf w' db vb at1 b ∧ b.drop at1 = r := by
  have H := hid h
  have Hby := hid hby
  have Hm := hid hm
  have Hq := hid hq
  have Hn := hid (rnum_bound (fun x hx => hby x (List.mem_of_mem_drop hx)) (by omega) Nat.zero_lt_one hq)
  clear h hby hm hq
  go_enter Try.func40, Try.ntmps40
  go_wp2_with (first | (go_at_call 39; refine (fNumber_yes _ db _ at0 b n r H.out Hby.out Hm.out Hq.out).mono ?_; rintro e w1 ⟨rfl, hg1, at1, hr1, hd1⟩; have HG := hid hg1; have HR := hid hr1; have HD := hid hd1; clear hg1 hr1 hd1) | (go_at_call 61; refine (unfolded_any n _ Hn.out).mono ?_; rintro e w2 ⟨rfl, rfl⟩))
  go_ret2
  exact ⟨rfl, HG.out, at1, HR.out, HD.out⟩
end Go.Proofs.Ytnnjfhgdimcieaa
