/- The reference reader: Flag. -/
import Derived.Test.YtnnjfhgdimcieaaRefMore
namespace Go.Proofs.Ytnnjfhgdimcieaa
open Go.RowKit

set_option maxRecDepth 100000 in
set_option maxHeartbeats 400000 in
theorem fFlag_no (w : World) (db : Nat) (vb : Value) (at0 : Nat) (b : List Int) (h : Rf w db vb at0 b) (hby : Byt b) (hm : b.length ≤ 140737488351232) (hq : rflag (b.drop at0) = none) :
    Calls Try.prog 41 #[.pointer (some ⟨db, 0, none⟩)] w fun e w' => e = .returned (.tuple #[.bool false, .int .i64 4]) ∧ w.grownBy w' (some db) ∧ Rf w' db vb at0 b := by
  have H := hid h
  have Hm := hid hm
  obtain ⟨ao, cap, rfl, hl⟩ := h.shape
  have k0 := cell_two0 h.1
  have k1 := cell_two1 h.1
  have hat := h.2.2.2
  have hatI : (at0 : Int) ≤ (b.length : Int) := by omega
  have hmI : (b.length : Int) ≤ 140737488351232 := by omega
  by_cases hlt : at0 < b.length
  · have hltI : (at0 : Int) < (b.length : Int) := by omega
    have h0I : (0 : Int) ≤ (at0 : Int) := by omega
    obtain ⟨-, ⟨ao', cap', hv, -, -, hcl⟩, -⟩ := h
    cases hv
    obtain ⟨bb, off, rfl, hcell⟩ := hcl (by intro e; subst e; simp at hlt)
    have hcx := hcell at0 hlt
    have hdc := drop_cons b at0 hlt
    obtain ⟨c, hc⟩ : ∃ c, c = b.getD at0 0 := ⟨_, rfl⟩
    rw [← hc] at hcx hdc
    have hc1 : 1 < c := by rw [hdc] at hq; simp only [rflag] at hq; split at hq <;> simp_all
    have hL : (((b.drop at0).length : Nat) : Int) = (b.length : Int) - (at0 : Int) := by simp; omega
    have HL := hid (show (((b.drop at0).length : Nat) : Int) = (b.length : Int) - (at0 : Int) from hL)
    obtain ⟨L, hL'⟩ : ∃ L : Nat, L = (b.drop at0).length := ⟨_, rfl⟩
    have hLp : ((L : Int) == 0) = false := by rw [hL']; simp; omega
    have HL' := hid hL'
    have HLF : Hid (∀ n, Calls Try.prog 22 #[.pointer (some ⟨db, 0, none⟩)] (w.drewN n) fun e w' => e = .returned (.int .i64 (L : Nat)) ∧ ∃ m, w' = (w.drewN n).drewN m) := fun n => by rw [HL'.out]; exact fLeft_any _ db _ at0 b (H.out.keep (grownBy_drewN _ _) (by simp) (.inl rfl)) Hm.out
    clear hcell hcl hc hdc hq hL hL'
    go_enter Try.func41, Try.ntmps41
    go_wp2_with fail
    go_quiet ((go_at_call 22; exact Calls.quiet_of (HLF.out _)))
    go_wp2
    go_ret2
    exact ⟨rfl, grownBy_mono (grownBy_drewN _ _), H.out.keep (grownBy_drewN _ _) (by simp) (.inl rfl)⟩
  · obtain ⟨L, hL'⟩ : ∃ L : Nat, L = (b.drop at0).length := ⟨_, rfl⟩
    have hLp : ((L : Int) == 0) = true := by rw [hL']; simp; omega
    have HL' := hid hL'
    have HLF : Hid (∀ n, Calls Try.prog 22 #[.pointer (some ⟨db, 0, none⟩)] (w.drewN n) fun e w' => e = .returned (.int .i64 (L : Nat)) ∧ ∃ m, w' = (w.drewN n).drewN m) := fun n => by rw [HL'.out]; exact fLeft_any _ db _ at0 b (H.out.keep (grownBy_drewN _ _) (by simp) (.inl rfl)) Hm.out
    clear hL' hq
    go_enter Try.func41, Try.ntmps41
    go_wp2_with fail
    go_quiet ((go_at_call 22; exact Calls.quiet_of (HLF.out _)))
    go_wp2
    go_ret2
    exact ⟨rfl, grownBy_mono (grownBy_drewN _ _), H.out.keep (grownBy_drewN _ _) (by simp) (.inl rfl)⟩

set_option maxRecDepth 100000 in
set_option maxHeartbeats 400000 in
theorem fFlag_yes (w : World) (db : Nat) (vb : Value) (at0 : Nat) (b : List Int) (f : Bool) (r : List Int) (h : Rf w db vb at0 b) (hby : Byt b) (hm : b.length ≤ 140737488351232) (hq : rflag (b.drop at0) = some (f, r)) :
    Calls Try.prog 41 #[.pointer (some ⟨db, 0, none⟩)] w fun e w' => e = .returned (.tuple #[.bool f, .int .i64 0]) ∧ w.grownBy w' (some db) ∧ ∃ at1, Rf w' db vb at1 b ∧ b.drop at1 = r := by
  have H := hid h
  have Hm := hid hm
  obtain ⟨ao, cap, rfl, hl⟩ := h.shape
  have k0 := cell_two0 h.1
  have k1 := cell_two1 h.1
  have kf := free_two (i := 1) h.1
  have hne := h.2.2.1
  have hat := h.2.2.2
  have hmI : (b.length : Int) ≤ 140737488351232 := by omega
  have hlt : at0 < b.length := by
    rcases Nat.lt_or_ge at0 b.length with h' | h'
    · exact h'
    · rw [List.drop_eq_nil_of_le h'] at hq; simp [rflag] at hq
  have hltI : (at0 : Int) < (b.length : Int) := by omega
  have h0I : (0 : Int) ≤ (at0 : Int) := by omega
  have hdb := lt_of_block h.1
  obtain ⟨-, ⟨ao', cap', hv, -, -, hcl⟩, -⟩ := h
  cases hv
  obtain ⟨bb, off, rfl, hcell⟩ := hcl (by intro e; subst e; simp at hlt)
  have hcx := hcell at0 hlt
  have hdc := drop_cons b at0 hlt
  obtain ⟨c0, c1⟩ := hby (b.getD at0 0) (by simp [List.getD, List.getElem?_eq_getElem hlt])
  obtain ⟨c, hc⟩ : ∃ c, c = b.getD at0 0 := ⟨_, rfl⟩
  rw [← hc] at hcx hdc c0 c1
  rw [hdc] at hq
  simp only [rflag] at hq
  split at hq
  · cases hq
  · rename_i hc1
    simp only [Option.some.injEq, Prod.mk.injEq] at hq
    obtain ⟨rfl, rfl⟩ := hq
    have h01 : c = 0 ∨ c = 1 := by omega
    obtain ⟨L, hL'⟩ : ∃ L : Nat, L = (b.drop at0).length := ⟨_, rfl⟩
    have hLp : ((L : Int) == 0) = false := by rw [hL']; simp; omega
    have HL' := hid hL'
    have HLF : Hid (∀ n, Calls Try.prog 22 #[.pointer (some ⟨db, 0, none⟩)] (w.drewN n) fun e w' => e = .returned (.int .i64 (L : Nat)) ∧ ∃ m, w' = (w.drewN n).drewN m) := fun n => by rw [HL'.out]; exact fLeft_any _ db _ at0 b (H.out.keep (grownBy_drewN _ _) (by simp) (.inl rfl)) Hm.out
    have hbb : ¬ bb = db := fun e => hne (by simp [Value.ownBlock, e])
    have e1 : ((at0 : Int) + 1 - 1) = (at0 : Int) := by omega
    clear hcell hcl hc hdc hL' hby hne hc1 c0 c1
    rcases h01 with rfl | rfl
    all_goals
      go_enter Try.func41, Try.ntmps41
      go_wp2_with fail
      go_quiet ((go_at_call 22; exact Calls.quiet_of (HLF.out _)))
      go_wp2_with fail
      go_quiet (fail)
      go_wp2
      go_ret2
      refine ⟨rfl, ?_, at0 + 1, ?_, rfl⟩
      · exact grownBy_trans (grownBy_trans (grownBy_mono (grownBy_drewN _ _)) (grownBy_setCell _ ⟨db, 1, none⟩ _)) (grownBy_mono (grownBy_drewN _ _))
      · rw [show (at0 : Int) + 1 = ((at0 + 1 : Nat) : Int) by omega]
        exact ((H.out.keep (grownBy_drewN _ _) (by simp) (.inl rfl)).set (by omega)).keep (grownBy_drewN _ _) (by simp) (.inl rfl)
end Go.Proofs.Ytnnjfhgdimcieaa
