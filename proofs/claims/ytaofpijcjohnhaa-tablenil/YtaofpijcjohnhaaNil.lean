/-
  PROVED: metronomelaw04.TableNil returns true: tables that are not there, and numbers that are no handles, are answered as the chapter says. No condition.
-/
import Derived.Test.YtaofpijcjohnhaaRows
import Derived.Test.YtaofpijcjohnhaaKnown
import Derived.WalkKit
import Derived.ProofKit
import Derived.OpenShut
namespace Go.Proofs.Ytaofpijcjohnhaa.tableNil
open Go.ChangeShapes Go.WideShapes Go.ChangeAt Go.RowKit
set_option linter.unusedVariables false

/-- k places are taken, each in its first generation. -/
def F (k : Nat) : Pl := fun i => if i < k then (true, 1) else (false, 0)
theorem F_upd (k : Nat) : upd (F k) k (true, 1) = F (k + 1) := by
  funext i
  unfold upd F
  by_cases h1 : i = k
  · subst h1; simp
  · by_cases h2 : i < k
    · simp [h1, h2, show i < k + 1 by omega]
    · simp [h1, h2, show ¬ i < k + 1 by omega]
theorem gF (k : Nat) : Gd (F k) := fun i _ => by
  unfold F
  split <;> decide
theorem lowF : ∀ k, k < 16 → low (F k) 16 0 = k := by decide
theorem F0 : F 0 = T0 := by funext i; simp [F, T0]

def NS : List Int := [0, -1, 15, 32, 9223372036854775807, -9223372036854775808, 272]
theorem ns_no : ∀ k, k < 7 → atV (F 16) 16 (NS.getD k 0) = 0 ∧ atB (F 16) 16 (NS.getD k 0) = false := by decide
theorem ns_cell {w : World} {lb : Nat} (h : w.heap[lb]? = some (.cells (NS.map (Value.int .i64)).toArray 2 (0, 0))) (k : Nat) (hk : k < 7) : w.cell? ⟨lb, k, none⟩ = some (.int .i64 (NS.getD k 0)) := by
  have hl : NS.length = 7 := rfl
  rw [cell_of_row w lb k _ _ _ h]
  simp [List.getElem?_eq_getElem (show k < NS.length by omega)]

set_option maxRecDepth 100000 in
set_option maxHeartbeats 2000000 in
theorem walk (w : World) : Calls Try.prog 6 #[] w fun e w' => e = .returned (.bool true) ∧ Below w.heap.size w w' := by
  go_enter Try.func6, Try.ntmps6
  go_wp2_with fail
  refine (new_ok w 16 (by decide) (by decide)).mono ?_
  rintro e w1 ⟨rfl, rfl⟩
  have k1 := hid (Kp.alloc w (.cells (tcs 16 T0) 55) [])
  have t1 := hid (show Tt _ w.heap.size 16 T0 from heap_alloc_new w (.cells (tcs 16 T0) 55))
  obtain ⟨w1, hw1⟩ : ∃ w1, w.alloc (.cells (tcs 16 T0) 55) = w1 := ⟨_, rfl⟩
  obtain ⟨tb, htb⟩ : ∃ tb, w.heap.size = tb := ⟨_, rfl⟩
  rw [hw1] at k1 t1 ⊢
  have NB := hid (show w.heap.size ≤ tb by omega)
  rw [htb] at t1 ⊢
  clear hw1 htb
  rw [← F0] at t1
  go_wp2
  go_loopw [3] (fun i wr => ∃ k : Nat, k ≤ 16 ∧ i = .int .i64 k ∧ Hid (Tt wr tb 16 (F k) ∧ Kp w wr []))
    (fun i _ => 16 - (intOf i).toNat)
  case atStart => exact ⟨0, Nat.zero_le _, rfl, t1.out, k1.out⟩
  case round =>
    obtain ⟨k, hk, rfl, hT⟩ := hrel
    by_cases hlt : k < 16
    · have hltI : (k : Int) < 16 := by omega
      go_wp2_with fail
      refine (add_ok wr tb 16 k (F k) hT.out.1 (gF k) (by simp [F]) (by decide) (by decide) (lowF k hlt) hlt).mono ?_
      rintro e w2 ⟨rfl, t2', k2'⟩
      rw [show ((F k) k).2 = 0 by simp [F]] at t2'
      have t2 := hid (show Tt w2 tb 16 (F (k + 1)) by rw [← F_upd]; exact t2')
      have k2 := hid (hT.out.2.past k2' (by intro k hk hl; have := NB.out; simp at hk; omega))
      clear t2' k2'
      go_wp2
      go_roundw
      case rel => exact ⟨k + 1, by omega, by simp, t2.out, k2.out⟩
      case measure => simp [intOf]; omega
    · have hltI : ¬ (k : Int) < 16 := by omega
      obtain rfl : k = 16 := by omega
      have k3 := hid hT.out.2
      have t3 := hid hT.out.1
      clear hT
      go_wp2_with fail
      refine (add_full wr tb 16 (F 16) t3.out (by decide) (by decide) (by decide)).mono ?_
      rintro e w4 ⟨rfl, k4'⟩
      have t4 := hid (t3.out.keep k4' (by simp))
      have k4 := hid (k3.out.trans k4')
      clear k4' t3 k3
      go_wp2_with fail
      have k5 := hid (k4.out.trans (Kp.alloc w4 (.cells (NS.map (Value.int .i64)).toArray 2) []))
      have t5 := hid (t4.out.keep (Kp.alloc w4 (.cells (NS.map (Value.int .i64)).toArray 2) []) (by simp))
      have l5 := hid (heap_alloc_new w4 (.cells (NS.map (Value.int .i64)).toArray 2))
      obtain ⟨w5, hw5⟩ : ∃ w5, w4.alloc (.cells (NS.map (Value.int .i64)).toArray 2) = w5 := ⟨_, rfl⟩
      obtain ⟨lb, hlb⟩ : ∃ lb, w4.heap.size = lb := ⟨_, rfl⟩
      rw [hw5] at k5 t5 l5
      rw [hlb] at l5 ⊢
      rw [show w4.alloc (.cells #[.int .i64 0, .int .i64 (-1), .int .i64 15, .int .i64 32, .int .i64 9223372036854775807, .int .i64 (-9223372036854775808), .int .i64 272] 2) = w5 from hw5]
      clear hw5 hlb t4 k4
      go_loopw [7] (fun i wr => ∃ k : Nat, k ≤ 7 ∧ i = .int .i64 k ∧ Hid (Tt wr tb 16 (F 16) ∧ Kp w wr [] ∧ wr.heap[lb]? = some (.cells (NS.map (Value.int .i64)).toArray 2 (0, 0))))
        (fun i _ => 7 - (intOf i).toNat)
      case atStart => exact ⟨0, Nat.zero_le _, rfl, t5.out, k5.out, l5.out⟩
      case round =>
        obtain ⟨k, hk, rfl, hT⟩ := hrel
        by_cases hlt : k < 7
        · have hltI : (k : Int) < 7 := by omega
          obtain ⟨x, hx⟩ : ∃ x, NS.getD k 0 = x := ⟨_, rfl⟩
          have cx := ns_cell hT.out.2.2 k hlt
          have hno := hid (ns_no k hlt)
          rw [hx] at cx hno
          clear hx
          go_wp2_with fail
          refine (at_any _ tb 16 (F 16) x hT.out.1 (gF 16) (by decide) (by decide)).mono ?_
          rintro e w6 ⟨rfl, k6'⟩
          rw [hno.out.1, hno.out.2]
          have k6 := hid (hT.out.2.1.trans k6')
          have t6 := hid (hT.out.1.keep k6' (by simp))
          have l6 := hid ((k6'.block lb (lt_of_block hT.out.2.2) (by simp)).trans hT.out.2.2)
          have cx := k6'.cell cx (by simp)
          clear k6' hT
          go_wp2_with fail
          refine (drop_no w6 tb 16 (F 16) x t6.out (gF 16) (by decide) (by decide) hno.out.2).mono ?_
          rintro e w7 ⟨rfl, k7'⟩
          have k7 := hid (k6.out.trans k7')
          have t7 := hid (t6.out.keep k7' (by simp))
          have l7 := hid ((k7'.block lb (lt_of_block l6.out) (by simp)).trans l6.out)
          clear k7' k6 t6 l6
          go_wp2_with (go_at_call 9; go_in)
          go_roundw
          case rel => exact ⟨k + 1, by omega, by simp, t7.out, k7.out, l7.out⟩
          case measure => simp [intOf]; omega
        · have hltI : ¬ (k : Int) < 7 := by omega
          have k6 := hid hT.out.2.1
          have t6 := hid hT.out.1
          clear hT
          go_wp2_with (go_at_call 9; go_in)
          refine (len_ok wr tb 16 (F 16) t6.out (gF 16) (by decide)).mono ?_
          rintro e w7 ⟨rfl, k7'⟩
          rw [show (tkp (F 16) 16).length = 16 from rfl]
          have t7 := hid (t6.out.keep k7' (by simp))
          have k7 := hid (k6.out.trans k7')
          clear k7' k6 t6
          go_wp2_with fail
          refine (nothing_any w7 none (.inl rfl)).mono ?_
          rintro e w8 ⟨rfl, k8'⟩
          have t8 := hid (t7.out.keep k8' (by simp))
          have k8 := hid (k7.out.trans k8')
          clear k8' k7 t7
          go_wp2_with fail
          refine (nothing_any _ _ (.inr ⟨w8.heap.size, rfl, ?_⟩)).mono ?_
          · exact (show Tt _ w8.heap.size 0 T0 from heap_alloc_new w8 (.cells (tcs 0 T0) 55)).count
          rintro e w9 ⟨rfl, k9'⟩
          have k9'' := (Kp.alloc w8 (.cells (tcs 0 T0) 55) []).trans k9'
          have t9 := hid (t8.out.keep k9'' (by simp))
          have k9 := hid (k8.out.trans k9'')
          clear k9' k9'' k8 t8
          go_wp2_with fail
          refine (same_any w9 _ none 16 0 (F 16) T0 (.inl ⟨tb, rfl, t9.out, by decide⟩) (.inr ⟨.inl rfl, rfl, rfl⟩)).mono ?_
          rintro e w10 ⟨rfl, k10'⟩
          rw [show (decide ((16 : Int) = 0) && sameT (F 16) T0) = false from rfl]
          have k10 := hid (k9.out.trans k10')
          clear k10' k9 t9
          go_wp2_with fail
          refine (known_any w10).mono ?_
          rintro e w11 ⟨rfl, k11'⟩
          have k11 := hid (k10.out.trans k11')
          clear k11' k10
          go_wp2
          go_ret
          exact ⟨rfl, k11.out.below⟩
theorem own : ownKnob Try.prog.godebug = none := by kernel_rfl

/-! ### The row's step -/
set_option maxRecDepth 100000 in
theorem lifted (os : Os) (started : os.Started) (H : Type) (enc : TypeId × Value → H) :
    ReturnsInHanded {} Try.checked os 6 .any (Rows.tableNilSpec.pre6 enc Try.prog Try.f6 Rows.tableNilRow.domain false) (Rows.tableNilSpec.post enc Try.prog Try.f6 false true false false) := by
  refine returnsInHanded_of_change (C := Try.checked) own started (by kernel_rfl) Try.func6
    (ChangeSpec.witness6 (enc := enc) (C := Try.checked) false ⟨#[], #[], []⟩ 8 (by kernel_rfl) (by kernel_rfl) (by kernel_rfl) (by kernel_rfl)) ?_
  intro W base args ds gs before hval0 hW hcnd _
  have hval : ∀ (j : Nat) t v, Try.f6.params[j]? = some t → args[j]? = some v → Value.okWide Try.prog W .any base t v := hval0
  have hW' := hW
  obtain ⟨p, q, hA0, hV, rfl, hfz, hnd⟩ := hW
  have hA : DataW.TrodAll enc Try.prog W 0 (fun _ => true) true Try.f6.params.toList args.toList ds p := hA0
  rw [Try.params6] at hA hval
  obtain ⟨rfl, rfl, rfl⟩ := trodAll_none hA
  obtain ⟨rfl, rfl⟩ := trodVars_none hV
  clear hA0 hval0
  simp only [List.append_nil] at hW'
  refine (walk  W).mono fun e W' ⟨he, hg⟩ => ?_
  subst he
  exact ⟨_, rfl, _, _, _, [], [], [], hW', trodAll_mk1 (shut_bool Try.underlying4 _), trodAll_mk0, rfl, hg.frame _, fun h => by cases h⟩

theorem over : Rows.tableNilRow.holds Try.pinned (OpenSpec.ofChange Rows.tableNilSpec) :=
  OpenClaim.holds_of_wide 6 Try.f6 rfl rfl rfl rfl rfl rfl rfl ⟨rfl, rfl, rfl, rfl, rfl⟩ rfl rfl rfl rfl rfl (by kernel_rfl) Try.func6 (by kernel_rfl)
    (of_decide_eq_true (by kernel_rfl)) (by unfold Func.isWrapper; first | (rw [if_pos (by decide +kernel)]; kernel_rfl) | (rw [if_neg (by decide +kernel)]; exact ⟨rfl, rfl⟩))
    (fun os started H enc _ => lifted os started H enc)

/-- The statement. -/
theorem proved : Rows.TableNilSaid :=
  over
end Go.Proofs.Ytaofpijcjohnhaa.tableNil

namespace Go.Proofs.Ytaofpijcjohnhaa
theorem tableNil_holds : Rows.TableNilSaid := tableNil.proved
#print axioms tableNil_holds
end Go.Proofs.Ytaofpijcjohnhaa
