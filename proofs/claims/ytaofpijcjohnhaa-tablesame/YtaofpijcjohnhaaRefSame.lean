/- The reference: Same. -/
import Derived.Test.YtaofpijcjohnhaaRefTwo
import Derived.Test.YtaofpijcjohnhaaSame
namespace Go.Proofs.Ytaofpijcjohnhaa
open Go.RowKit

theorem pl_neq (a b : Bool × Int) (w : World) : (binOp .neq 70 (.agg #[.bool a.1, .int .i64 a.2]) (.agg #[.bool b.1, .int .i64 b.2])).run Try.prog w = .ok (.bool (!decide (a = b))) w := by
  obtain ⟨a, g⟩ := a
  obtain ⟨b, h⟩ := b
  by_cases h1 : g = h <;> cases a <;> cases b <;> simp [go_sem, h1]

set_option maxRecDepth 100000 in
theorem rsame_none (w : World) (p q : Option Addr) (h : p = none ∨ q = none) : Calls Try.prog 16 #[.pointer p, .pointer q] w fun e w' => e = .returned (.bool (p.isNone && q.isNone)) ∧ w' = w := by
  cases p with
  | none =>
    cases q with
    | none =>
      go_enter Try.func16, Try.ntmps16
      go_wp2
      go_ret
      exact ⟨rfl, rfl⟩
    | some b =>
      go_enter Try.func16, Try.ntmps16
      go_wp2
      go_ret
      exact ⟨rfl, rfl⟩
  | some a =>
    cases q with
    | none =>
      go_enter Try.func16, Try.ntmps16
      go_wp2
      go_ret
      exact ⟨rfl, rfl⟩
    | some b => simp at h

theorem same_wf {T U : Pl} {n : Nat} (hT : ∀ i, n ≤ i → T i = (false, 0)) (hU : ∀ i, n ≤ i → U i = (false, 0)) (hn : n ≤ 16) : sameT T U = true ↔ ∀ i, i < n → T i = U i := by
  rw [sameT_iff]
  constructor
  · intro h i hi
    exact h i (by omega)
  · intro h i _
    rcases Nat.lt_or_ge i n with hi | hi
    · exact h i hi
    · rw [hT i hi, hU i hi]

set_option maxRecDepth 100000 in
set_option maxHeartbeats 1000000 in
theorem rsame_any (w : World) (rb mb n rb' mb' n' : Nat) (T U : Pl) (h : Rt w rb mb n T) (h' : Rt w rb' mb' n' U) (hT : ∀ i, n ≤ i → T i = (false, 0)) (hU : ∀ i, n' ≤ i → U i = (false, 0)) (h2 : n ≤ 16) :
    Calls Try.prog 16 #[.pointer (some ⟨rb, 0, none⟩), .pointer (some ⟨rb', 0, none⟩)] w fun e w' => e = .returned (.bool (decide ((n : Int) = n') && sameT T U)) ∧ Kp w w' [] := by
  have HR := hid h
  have HR' := hid h'
  have c0 := h.cell
  have c0' := h'.cell
  clear h h'
  by_cases hn : n = n'
  · subst hn
    rw [show decide ((n : Int) = n) = true by simp, Bool.true_and]
    have HS := hid (same_wf hT hU h2)
    go_enter Try.func16, Try.ntmps16
    go_wp2_with fail
    go_quiet (fail)
    go_wp2_with fail
    go_loopw [5] (fun vi wr => ∃ i : Nat, i ≤ n ∧ vi = .int .i64 i ∧ Hid (Kp w wr []) ∧ Hid (∀ j, j < i → T j = U j)) (fun vi _ => n - (intOf vi).toNat)
    case atStart => exact ⟨0, Nat.zero_le _, rfl, Kp.drewN _ _ _, fun j hj => by omega⟩
    case round =>
      obtain ⟨i, hi, rfl, hK, hno⟩ := hrel
      have R1 := HR.out.keep hK.out (by simp) (by simp)
      have R2 := HR'.out.keep hK.out (by simp) (by simp)
      have d0 := R1.cell
      have d0' := R2.cell
      by_cases hlt : i < n
      · have hltI : (i : Int) < n := by omega
        have ct := R1.taken i hlt
        have cg := R1.gen i hlt
        have ct' := R2.taken i hlt
        have cg' := R2.gen i hlt
        have hne := pl_neq (T i) (U i)
        clear R1 R2 c0 c0'
        by_cases he : T i = U i
        · rw [show (!decide (T i = U i)) = false by simp [he]] at hne
          have hno' := hid (show ∀ j, j < i + 1 → T j = U j from fun j hj => by
            rcases Nat.lt_succ_iff_lt_or_eq.1 hj with h | rfl
            · exact hno.out j h
            · exact he)
          clear hno he
          go_wp2_with fail
          go_quiet (fail)
          go_wp2
          go_roundw
          case rel => exact ⟨i + 1, by omega, by simp, hK.out.trans (Kp.drewN _ _ _), hno'⟩
          case measure => simp [intOf]; omega
        · rw [show (!decide (T i = U i)) = true by simp [he]] at hne
          have HF := hid (show sameT T U = false by
            cases e : sameT T U with
            | false => rfl
            | true => exact absurd (HS.out.1 e i hlt) he)
          clear hno he
          go_wp2_with fail
          go_quiet (fail)
          go_wp2
          go_ret
          exact ⟨by rw [HF.out]; rfl, hK.out.trans (Kp.drewN _ _ _)⟩
      · have hltI : ¬ (i : Int) < n := by omega
        have HF := hid (show sameT T U = true from HS.out.2 fun j hj => hno.out j (by omega))
        clear hno R1 R2
        go_wp2
        go_ret
        exact ⟨by rw [HF.out]; rfl, hK.out⟩
  · have hn' : ¬ (n : Int) = n' := by omega
    rw [show decide ((n : Int) = n') = false by simp [hn'], Bool.false_and]
    have hb : ((n : Int) != n') = true := by simp [hn']
    clear hn hn'
    go_enter Try.func16, Try.ntmps16
    go_wp2_with fail
    go_quiet (fail)
    go_wp2
    go_ret
    exact ⟨rfl, Kp.drewN _ _ _⟩
end Go.Proofs.Ytaofpijcjohnhaa
