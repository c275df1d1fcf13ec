/- wire.Flag, the reference Flag, wire.Join. -/
import Derived.Test.YtnnjfhgdimcieaaKnown
import Derived.Laws.AppendOwnNone
namespace Go.Proofs.Ytnnjfhgdimcieaa
open Go.RowKit

/-- A flag's byte. -/
def flagN (b : Bool) : List Int := [if b then 1 else 0]

set_option maxRecDepth 100000 in
theorem flag_any (b : Bool) (w : World) :
    Calls Try.prog 15 #[.bool b] w fun e w' => ∃ v, e = .returned v ∧ w'.ownsRow w.heap.size 5 1 v (flagN b).length (ub (flagN b)) ∧ w.grownBy w' none := by
  cases b
  · go_enter Try.func15, Try.ntmps15
    go_wp2
    go_ret
    exact ⟨_, rfl, World.ownsRow_lit w #[.int .u8 0] 1 (Nat.le_refl _) (by unfold maxLen; omega) rfl, World.grownBy_alloc _ _ _⟩
  · go_enter Try.func15, Try.ntmps15
    go_wp2
    go_ret
    exact ⟨_, rfl, World.ownsRow_lit w #[.int .u8 1] 1 (Nat.le_refl _) (by unfold maxLen; omega) rfl, World.grownBy_alloc _ _ _⟩
set_option maxRecDepth 100000 in
theorem rflag_any (b : Bool) (w : World) :
    Calls Try.prog 16 #[.bool b] w fun e w' => ∃ v, e = .returned v ∧ w'.ownsRow w.heap.size 5 1 v (flagN b).length (ub (flagN b)) ∧ w.grownBy w' none := by
  cases b
  · go_enter Try.func16, Try.ntmps16
    go_wp2
    go_ret
    exact ⟨_, rfl, World.ownsRow_lit w #[.int .u8 0] 1 (Nat.le_refl _) (by unfold maxLen; omega) rfl, World.grownBy_alloc _ _ _⟩
  · go_enter Try.func16, Try.ntmps16
    go_wp2
    go_ret
    exact ⟨_, rfl, World.ownsRow_lit w #[.int .u8 1] 1 (Nat.le_refl _) (by unfold maxLen; omega) rfl, World.grownBy_alloc _ _ _⟩

/-- A list of byte slices: the outer slice's cells are vs, each of which reads as its list. -/
def Ls (w : World) (v : Value) (ls : List (List Int)) : Prop :=
  ∃ (ao : Option Addr) (cap : Nat) (vs : List Value), v = .slice ao ls.length cap ∧ vs.length = ls.length ∧ ls.length ≤ cap ∧
    (ls ≠ [] → ∃ b off, ao = some ⟨b, off, none⟩ ∧ ∀ i, i < ls.length → w.cell? ⟨b, off + i, none⟩ = some (vs.getD i (.slice none 0 0))) ∧
    ∀ i, i < ls.length → Bs w (vs.getD i (.slice none 0 0)) (ls.getD i [])

theorem flat_snoc (ls : List (List Int)) (k : Nat) (h : k < ls.length) : (ls.take (k + 1)).flatten = (ls.take k).flatten ++ ls.getD k [] := by
  have e : ls.getD k [] = ls[k] := by simp [List.getD, List.getElem?_eq_getElem h]
  rw [List.take_succ_eq_append_getElem h, List.flatten_append, e]
  simp only [List.flatten_cons, List.flatten_nil, List.append_nil]
theorem flat_le (ls : List (List Int)) (k : Nat) : (ls.take k).flatten.length ≤ ls.flatten.length := by
  have : ls.flatten = (ls.take k).flatten ++ (ls.drop k).flatten := by rw [← List.flatten_append, List.take_append_drop]
  rw [this]
  simp

theorem grown_same {w wr w1 : World} {v : Value} {row : Option Nat} {e s n : Nat} {xs : List Value} (hg : w.grownBy wr row) (hown : wr.ownsRow w.heap.size e s v n xs) (hgrow : wr.grownBy w1 v.ownBlock) : w.grownBy w1 row := by
  refine ⟨hgrow.os.trans hg.os, hgrow.tape.trans hg.tape, hgrow.output.trans hg.output, Nat.le_trans hg.size hgrow.size, fun k hk hr => ?_⟩
  have h1 := hg.size
  rw [hgrow.block k (by omega) (fun e => by have := (hown.lt k e.symm).1; omega), hg.block k hk hr]

set_option maxRecDepth 100000 in
set_option maxHeartbeats 1000000 in
theorem join_any (w : World) (v : Value) (ls : List (List Int)) (h : Ls w v ls) (hm : ls.flatten.length ≤ 140737488355328) (hl : ls.length ≤ 9223372036854775806) :
    Calls Try.prog 10 #[v] w fun e w' => ∃ v', e = .returned v' ∧ w'.ownsRow w.heap.size 5 1 v' ls.flatten.length (ub ls.flatten) ∧ w.grownBy w' none := by
  obtain ⟨i0, hi, hz0, hz1, hz2⟩ := info_parts Try.info5
  obtain ⟨ao, cap, vs, rfl, hvl, hlc, hcell, hbs⟩ := h
  have HM := hid hm
  obtain ⟨F, hF⟩ : ∃ F, F = ls.flatten := ⟨_, rfl⟩
  rw [← hF]
  have HFl := hid hF
  clear hF
  have HC := hid hcell
  have HB := hid hbs
  clear hm hcell hbs
  go_enter Try.func10, Try.ntmps10
  go_wp2
  go_loopw [3, 8] (fun a i wr => ∃ k : Nat, k ≤ ls.length ∧ i = .int .i64 k ∧ wr.ownsRow w.heap.size 5 1 a (ls.take k).flatten.length (ub (ls.take k).flatten) ∧ w.grownBy wr none)
    (fun _ i _ => ls.length - (intOf i).toNat)
  case atStart => exact ⟨0, Nat.zero_le _, rfl, World.ownsRow_nil _ _ _ _, World.grownBy.refl _ _⟩
  case round =>
    obtain ⟨k, hk, rfl, hown, hg⟩ := hrel
    by_cases hlt : k < ls.length
    · have hne : ls ≠ [] := by intro e; subst e; simp at hlt
      obtain ⟨b, off, rfl, hcell⟩ := HC.out hne
      have hbk := HB.out k hlt
      have hck := hcell k hlt
      have hbl := World.block_lt_of_cell? w _ hck
      have hck' : wr.cell? ⟨b, off + k, none⟩ = some (vs.getD k (.slice none 0 0)) := by
        rw [World.cell?_of_block (w := w) (hg.block b hbl (by simp))]
        exact hck
      have hsn := hid (flat_snoc ls k hlt)
      have hfl := flat_le ls (k + 1)
      rw [hsn.out, List.length_append] at hfl
      obtain ⟨vk, hvk⟩ : ∃ vk, vk = vs.getD k (.slice none 0 0) := ⟨_, rfl⟩
      rw [← hvk] at hck' hbk
      have hbw : Bs wr vk (ls.getD k []) := by
        by_cases h0 : ls.getD k [] = []
        · rw [h0] at hbk ⊢
          obtain ⟨ao', cap', e, a1, a2, a3⟩ := hbk
          exact ⟨ao', cap', e, a1, a2, fun h => absurd rfl h⟩
        · exact hbk.keep fun j hj => hg.block j (hbk.lt h0 j hj) (by simp)
      obtain ⟨lk, hlk⟩ : ∃ lk, lk = ls.getD k [] := ⟨_, rfl⟩
      rw [← hlk] at hbw hfl
      have HS := hid (hsn.out.trans (by rw [← hlk]))
      have HBW := hid hbw
      have HF := hid (show (ls.take k).flatten.length + lk.length ≤ 140737488355328 by have := HM.out; omega)
      obtain ⟨aok, capk, rfl, hlk1, hlk2, hlk3⟩ := hbw
      clear hvk hbk hck hcell hsn hfl hlk hlk3 HC HB hne
      have hlt' : (k : Int) < (ls.length : Int) := by omega
      cases aok with
      | none =>
        have hc0 : capk = 0 := hlk2 rfl
        subst hc0
        have hl0 : lk = [] := List.eq_nil_of_length_eq_zero (by omega)
        subst hl0
        simp only [List.length_nil] at hck'
        go_wp2_with (at_builtin; refine wpList_append_own_none rfl _ _ 23 rfl w.heap.size 5 i0 1 Try.underlying23 hi _ _ _ rfl hown rfl ?_)
        go_roundw
        case rel => exact ⟨k + 1, by omega, by go_num, by rw [HS.out, List.append_nil]; exact hown, hg⟩
        case measure => simp [intOf]; omega
      | some a =>
        go_wp2_with (at_builtin; refine wpList_append_own _ rfl _ _ 23 rfl w.heap.size 5 i0 (.int .u8 0) 1 1 Try.underlying23 hi hz0 hz1 hz2 rfl (by decide) _ _ _ rfl hown a lk.length capk (ub lk) rfl (by simp [ub]) (HBW.out.cells rfl fun _ _ => rfl) (ub_one lk) (by have := HF.out; unfold maxLen; omega) (by have := HF.out; omega) hg.size ?_)
        intro v' w1 hown' hgrow _
        have hg' := grown_same hg hown hgrow
        clear hown hg hgrow
        go_wp2
        go_roundw
        case rel => exact ⟨k + 1, by omega, by go_num, by rw [HS.out]; simpa [ub] using hown', hg'⟩
        case measure => simp [intOf]; omega
    · have hke : k = ls.length := by omega
      have hlt' : ¬ (k : Int) < (ls.length : Int) := by omega
      have HO := hid hown
      clear hown
      go_wp2
      go_ret
      subst hke
      have := HO.out
      rw [List.take_length, ← HFl.out] at this
      exact ⟨_, rfl, this, hg⟩
end Go.Proofs.Ytnnjfhgdimcieaa
