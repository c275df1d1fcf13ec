/- The reference reader: Numbers. -/
import Derived.Test.YtnnjfhgdimcieaaRefFlag
import Derived.Test.YtnnjfhgdimcieaaThings
namespace Go.Proofs.Ytnnjfhgdimcieaa
open Go.RowKit
set_option linter.unusedVariables false

/-- Numbers: all of the list, or nothing, and then the reader is as it was. -/
def Got2 (q : Except Int (List Nat × List Int)) (base db at0 : Nat) (vb : Value) (b : List Int) (w' : World) (en : Ending) : Prop := match q with
  | .error e => en = .returned (.tuple #[.slice none 0 0, .int .i64 e]) ∧ Rf w' db vb at0 b
  | .ok (xs, r) => (∃ v', en = .returned (.tuple #[v', .int .i64 0]) ∧ w'.ownsRow base 22 1 v' xs.length (uq xs)) ∧ ∃ at1, Rf w' db vb at1 b ∧ b.drop at1 = r
theorem got_err {q : Except Int (List Nat × List Int)} {base db at0 : Nat} {vb : Value} {b : List Int} {w' : World} {e : Int} (h : q = .error e) (hr : Rf w' db vb at0 b) : Got2 q base db at0 vb b w' (.returned (.tuple #[.slice none 0 0, .int .i64 e])) := by
  subst h; exact ⟨rfl, hr⟩
theorem got_ok {q : Except Int (List Nat × List Int)} {base db at0 at1 : Nat} {vb : Value} {b : List Int} {w' : World} {xs : List Nat} {r : List Int} {v' : Value} (h : q = .ok (xs, r)) (ho : w'.ownsRow base 22 1 v' xs.length (uq xs)) (hr : Rf w' db vb at1 b) (hd : b.drop at1 = r) : Got2 q base db at0 vb b w' (.returned (.tuple #[v', .int .i64 0])) := by
  subst h; exact ⟨⟨v', rfl, ho⟩, at1, hr, hd⟩
/-- The reference's reader stays where a row that the call owns is written. -/
theorem rf_keep_own {wr w1 : World} {o : Obj} {v vb : Value} {b : List Int} {db at0 base e s n : Nat} {xs : List Value} (hr : Rf wr db vb at0 b) (hown : wr.ownsRow base e s v n xs) (hgrow : (wr.alloc o).grownBy w1 v.ownBlock) (hb : db < base) (hv : b ≠ [] → ∀ k, vb.ownBlock = some k → k < base) : Rf w1 db vb at0 b := by
  have h1 := hr.keep (World.grownBy_alloc wr o none) (by simp) (.inl rfl)
  have hne : v.ownBlock ≠ some db := fun e => by have := (hown.lt db e).1; omega
  by_cases hl : b = []
  · subst hl
    refine ⟨(hgrow.block db (lt_of_block h1.1) (fun e => hne e.symm)).trans h1.1, ?_, h1.2.2⟩
    obtain ⟨ao, cap, rfl, a, b, c⟩ := h1.2.1
    exact ⟨ao, cap, rfl, a, b, fun h => absurd rfl h⟩
  · refine h1.keep hgrow hne ?_
    cases hk : vb.ownBlock with
    | none =>
      cases hv' : v.ownBlock with
      | none => exact .inl rfl
      | some g => exact .inr (by simp)
    | some k =>
      refine .inr fun e => ?_
      have := (hown.lt k e.symm).1
      have := hv hl k hk
      omega

set_option maxRecDepth 100000 in
set_option maxHeartbeats 2000000 in
theorem fNumbers_any (w : World) (db : Nat) (vb : Value) (at0 : Nat) (b : List Int) (most : Int) (h : Rf w db vb at0 b) (hby : Byt b) (hm : b.length ≤ 1048576) (hm0 : 0 ≤ most) (hm1 : most ≤ 9223372036854775807) :
    Calls Try.prog 44 #[.pointer (some ⟨db, 0, none⟩), .int .i64 most] w fun en w' => w.grownBy w' (some db) ∧ Got2 (rtake most (b.drop at0)) w.heap.size db at0 vb b w' en := by
  have hrb := lt_of_block h.1
  have HVB := hid (show b ≠ [] → ∀ k, vb.ownBlock = some k → k < w.heap.size from fun hp k e => h.2.1.lt hp k e)
  obtain ⟨i0, hi, hz0, hz1, hz2⟩ := info_parts Try.info22
  have H := hid h
  have Hm := hid hm
  have Hby := hid hby
  have k1 := cell_two1 h.1
  have hat := h.2.2.2
  have HBD := hid (show Byt (b.drop at0) from fun x hx => hby x (List.mem_of_mem_drop hx))
  clear h hby hm
  cases hn : rnum 0 0 (b.drop at0) with
  | none =>
    have Hn := hid hn
    have HE := hid (show rtake most (b.drop at0) = .error 4 by unfold rtake rcnt; rw [if_neg (by omega), hn])
    clear hn
    go_enter Try.func44, Try.ntmps44
    go_wp2_with (go_at_call 39; refine (fNumber_no _ db _ at0 b H.out Hby.out (by have := Hm.out; omega) Hn.out).mono ?_; rintro e w1 ⟨rfl, hg1, hr1⟩; have HG := hid hg1; have HR := hid hr1; have q1 := cell_two1 hr1.1; have qf := free_two (i := 1) hr1.1; clear hg1 hr1)
    refine wp_loop_rounds 1 ?_
    rw [rounds_succ]
    go_wp2
    go_ret2
    exact ⟨grownBy_trans HG.out (grownBy_setCell _ ⟨db, 1, none⟩ _), got_err HE.out (HR.out.set hat)⟩
  | some p =>
    obtain ⟨n, r0⟩ := p
    have Hn := hid hn
    have HNB := hid (rnum_bound (fun x hx => Hby.out x (List.mem_of_mem_drop hx)) (by omega) Nat.zero_lt_one hn)
    have HS := hid (rnum_shorter HBD.out hn)
    by_cases hgt : most < (n : Int)
    · have HE := hid (show rtake most (b.drop at0) = .error 3 by unfold rtake rcnt; rw [if_neg (by omega), hn]; simp only; rw [if_pos hgt])
      clear hn
      go_enter Try.func44, Try.ntmps44
      go_wp2_with (go_at_call 39; refine (fNumber_yes _ db _ at0 b n r0 H.out Hby.out (by have := Hm.out; omega) Hn.out).mono ?_; rintro e w1 ⟨rfl, hg1, at1, hr1, hd1⟩; have HG := hid hg1; have HR := hid hr1; have q1 := cell_two1 hr1.1; have qf := free_two (i := 1) hr1.1; clear hg1 hr1 hd1)
      refine wp_loop_rounds 1 ?_
      rw [rounds_succ]
      go_wp2
      go_ret2
      exact ⟨grownBy_trans HG.out (grownBy_setCell _ ⟨db, 1, none⟩ _), got_err HE.out (HR.out.set hat)⟩
    · have HT := hid (show rtake most (b.drop at0) = match rlist n r0 with | none => .error 4 | some p => .ok p by unfold rtake rcnt; rw [if_neg (by omega), hn]; simp only; rw [if_neg hgt]; rfl)
      have hle : (n : Int) ≤ most := by omega
      clear hn hgt
      go_enter Try.func44, Try.ntmps44
      go_wp2_with fail
      refine (fNumber_yes _ db _ at0 b n r0 H.out Hby.out (by have := Hm.out; omega) Hn.out).mono ?_
      rintro e w1 ⟨rfl, hg1, at1, hr1, hd1⟩
      have HG := hid hg1
      have HR := hid hr1
      have HD := hid hd1
      clear hg1 hr1 hd1
      go_wp2
      go_loopw [8, 9, 10] (fun e lv i wr => ∃ (k : Nat) (xs : List Nat) (atk : Nat) (ao : Option Addr) (cp : Nat) (E : Int), k ≤ n ∧ e = .int .i64 E ∧ i = .int .u64 k ∧ lv = .slice ao k cp ∧ Hid (w.grownBy wr (some db)) ∧ Hid (Rf wr db vb atk b) ∧ Hid ((E = 0 ∧ wr.ownsRow w.heap.size 22 1 (.slice ao k cp) k (uq xs) ∧ xs.length = k ∧ k + (b.drop atk).length ≤ r0.length ∧ rlist n r0 = joinl xs (rlist (n - k) (b.drop atk))) ∨ (E = 4 ∧ rlist n r0 = none)))
        (fun _ _ i _ => n - (intOf i).toNat)
      case atStart => exact ⟨0, [], at1, none, 0, 0, Nat.zero_le _, rfl, rfl, rfl, HG.out, HR.out, .inl ⟨rfl, World.ownsRow_nil _ _ _ _, rfl, by rw [HD.out]; omega, by rw [HD.out]; exact (joinl_nil _).symm⟩⟩
      case round =>
        obtain ⟨k, xs, atk, ao, cp, E, hk, rfl, rfl, rfl, hG, hR, hS⟩ := hrel
        rcases hS.out with ⟨rfl, hO, hxl, hlen, hJ⟩ | ⟨rfl, hnone⟩
        · by_cases hlt : k < n
          · have hlt' : (k : Int) < (n : Int) := by omega
            have HO := hid hO
            have HJ := hid hJ
            have HXL := hid hxl
            have hkb : k ≤ 1048576 := Nat.le_trans (Nat.le_trans (by omega : k ≤ r0.length) (Nat.le_trans (Nat.le_of_succ_le HS.out.1) (by rw [List.length_drop]; omega : (b.drop at0).length ≤ b.length))) Hm.out
            clear hO hJ hxl hS
            cases hx : rnum 0 0 (b.drop atk) with
            | none =>
              have HX := hid hx
              clear hx
              go_wp2_with fail
              refine (fNumber_no wr db _ atk b hR.out Hby.out (by have := Hm.out; omega) HX.out).mono ?_
              rintro en w2 ⟨rfl, hg2, hr2⟩
              have HO2 := hid (owns_keep HO.out hg2 hrb)
              have HG2 := hid (grownBy_trans hG.out hg2)
              have HR2 := hid hr2
              have hsz2 := HG2.out.size
              clear hg2 hr2
              go_wp2_with (at_builtin; refine wpList_append_own _ rfl _ _ 84 rfl w.heap.size 22 i0 (.int .u64 0) 1 8 Try.underlying84 hi hz0 hz1 hz2 rfl (by decide) _ k (uq xs) rfl (HO2.out.alloc _) ⟨_, 0, none⟩ 1 1 [.int .u64 0] rfl rfl (cell_one_new _ _ _) (one_one _ _) (by unfold maxLen; omega) (by omega) (by simp; omega) ?_; intro v' w3 hown' hgrow hiff; clear hiff)
              have G3 := hid (grown_own HG2.out HO2.out hgrow)
              obtain ⟨ao', cp', rfl⟩ := owns_shape hown'
              have HR3 := hid (rf_keep_own HR2.out HO2.out hgrow hrb HVB.out)
              clear hown' hgrow
              go_wp2
              go_roundw
              case rel =>
                have hne : rlist n r0 = none := by rw [HJ.out, show n - k = (n - k - 1) + 1 by omega]; exact joinl_none HX.out
                exact ⟨k + 1, [], atk, ao', cp', 4, by omega, rfl, by go_num, rfl, G3.out, HR3.out, .inr ⟨rfl, hne⟩⟩
              case measure => simp [intOf]; omega
            | some p =>
              obtain ⟨x, r⟩ := p
              have HX := hid hx
              have HSX := hid (rnum_shorter (fun y hy => Hby.out y (List.mem_of_mem_drop hy)) hx)
              clear hx
              go_wp2_with fail
              refine (fNumber_yes wr db _ atk b x r hR.out Hby.out (by have := Hm.out; omega) HX.out).mono ?_
              rintro en w2 ⟨rfl, hg2, at2, hr2, hd2⟩
              have HO2 := hid (owns_keep HO.out hg2 hrb)
              have HG2 := hid (grownBy_trans hG.out hg2)
              have HR2 := hid hr2
              have HD2 := hid hd2
              have hsz2 := HG2.out.size
              clear hg2 hr2 hd2
              go_wp2_with (at_builtin; refine wpList_append_own _ rfl _ _ 84 rfl w.heap.size 22 i0 (.int .u64 0) 1 8 Try.underlying84 hi hz0 hz1 hz2 rfl (by decide) _ k (uq xs) rfl (HO2.out.alloc _) ⟨_, 0, none⟩ 1 1 [.int .u64 x] rfl rfl (cell_one_new _ _ _) (one_one _ _) (by unfold maxLen; omega) (by omega) (by simp; omega) ?_; intro v' w3 hown' hgrow hiff; clear hiff)
              have HO3 := hid hown'
              have G3 := hid (grown_own HG2.out HO2.out hgrow)
              obtain ⟨ao', cp', rfl⟩ := owns_shape hown'
              have HR3 := hid (rf_keep_own HR2.out HO2.out hgrow hrb HVB.out)
              clear hown' hgrow
              go_wp2
              go_roundw
              case rel =>
                refine ⟨k + 1, xs ++ [x], at2, ao', cp', 0, by omega, rfl, by go_num, rfl, G3.out, HR3.out, .inl ⟨rfl, ?_, by simp [HXL.out], ?_, ?_⟩⟩
                · have := HO3.out
                  simpa [uq] using this
                · rw [HD2.out]; have := HSX.out.1; omega
                · rw [HJ.out, HD2.out, show n - k = (n - (k + 1)) + 1 by omega]
                  exact joinl_step HX.out
              case measure => simp [intOf]; omega
          · have hlt' : ¬ (k : Int) < (n : Int) := by omega
            have hkn := hid (show k = n by omega)
            have HO := hid hO
            have HJ := hid hJ
            have HXL := hid hxl
            clear hO hJ hxl hS hlt
            go_wp2
            go_ret2
            have hs : rlist n r0 = some (xs, b.drop atk) := by rw [HJ.out, hkn.out, Nat.sub_self, rlist]; simp [joinl]
            exact ⟨hG.out, got_ok (by rw [HT.out, hs]) (by rw [HXL.out]; exact HO.out) hR.out rfl⟩
        · have HNONE := hid hnone
          have q1 := cell_two1 hR.out.1
          have qf := free_two (i := 1) hR.out.1
          clear hnone hS
          go_wp2
          go_ret2
          exact ⟨grownBy_trans hG.out (grownBy_setCell _ ⟨db, 1, none⟩ _), got_err (by rw [HT.out, HNONE.out]) (hR.out.set hat)⟩
end Go.Proofs.Ytnnjfhgdimcieaa
