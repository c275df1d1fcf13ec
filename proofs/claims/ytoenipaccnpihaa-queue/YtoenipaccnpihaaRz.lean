/- The reference's Same. -/
import Derived.Deep.MidRow
import Derived.BigQuiet
import Derived.Test.YtoenipaccnpihaaRa
import Derived.Test.YtoenipaccnpihaaSm
namespace Go.Proofs.Ytoenipaccnpihaa
open Go.RowKit Go.Shelf Go.Sort Go.Maps
open Go.Lib hiding intOf
attribute [local go_sem] Oper.semAt_some

theorem neq47 (x1 x2 y1 y2 : Int) (W : World) : (binOp .neq 47 (.agg #[.int .i64 x1, .int .i64 x2]) (.agg #[.int .i64 y1, .int .i64 y2])).run Try.prog W = .ok (.bool (!(x1 == y1 && x2 == y2))) W := by
  cases h1 : (x1 == y1) <;> cases h2 : (x2 == y2) <;> go_simp
set_option maxRecDepth 100000 in
theorem arrN (f g : Nat → Nat) (w : World) : (binOp .neq 58 (.agg (vU f).toArray) (.agg (vU g).toArray)).run Try.prog w = .ok (.bool (!eqM f g)) w := by
  rw [run_neq_struct]
  obtain ⟨i0, hi⟩ : ∃ i0, Try.prog.info? 34 = some i0 := ⟨_, rfl⟩
  have hc : Try.prog.cellsOf 34 = 1 := by kernel_rfl
  have h := run_equalIn_array (P := Try.prog) w 9999 (vU f).toArray (vU g).toArray Try.underlying58 hi
  rw [hc, itemsU f g w _ (by simp)] at h
  rw [h]
  rfl
theorem yieldsIf_neq {P : Program} {ops : Array Oper} {Sw : World → Prop} {op : Oper} {a : Act} (hw : Region.wanted op (yielded ops a.tmps) = true) (t : TypeId) (x y : Operand) (k : TypeId) (ho : op.op = .binOp .neq t x y k) (xs ys : Array Value)
    (hx : a.eval x = .agg xs) (hy : a.eval y = .agg ys) (b : Bool) (hg : ∀ w, (eqGuard .neq t x y (.agg xs) (.agg ys)).run P w = .ok () w) (he : ∀ w, (binOp .neq t (.agg xs) (.agg ys)).run P w = .ok (.bool b) w) : YieldsIf P ops Sw op (.bool b) a :=
  .inl ⟨hw, fun w _ => by
    unfold execOp
    simp only [ho, hx, hy, Sem.run_bind, hg, he, Result.andThen_ok, Sem.run_pure]⟩
theorem Rc.rowM {w : World} {rb T S : Nat} {M : Nat → Nat} {V : Value} (h : Rc w rb T S M V) : w.rangeAt rb 2 (vU M) := range_of (F := fun t => .int .u32 (M t : Nat)) (fun _ ht => h.ms ht)
theorem allV_len (T : Nat) (L : El) (t : Int) : (allV T L t).length ≤ L.length := by
  unfold allV
  split
  · have := allP_len t.toNat L.length L (Nat.le_refl _)
    omega
  · simp
/-- What the reference says of two that are there. -/
def rsameS (T1 S1 : Nat) (M1 : Nat → Nat) (L1 : El) (T2 S2 : Nat) (M2 : Nat → Nat) (L2 : El) : Bool := decide (T1 = T2) && (decide (S1 = S2) && (eqM M1 M2 && (List.range T1).all fun t => decide (allV T1 L1 (t : Nat) = allV T2 L2 (t : Nat))))
set_option maxRecDepth 100000 in
set_option maxHeartbeats 4000000 in
theorem rsame_any (w : World) (rb rc : Nat) (Q1 Q2 : List Nat) (T1 S1 T2 S2 : Nat) (M1 M2 : Nat → Nat) (L1 L2 : El) (h : Rm w rb Q1 T1 S1 M1 L1) (h' : Rm w rc Q2 T2 S2 M2 L2) (o1 : Ok T1 S1 L1) (o2 : Ok T2 S2 L2) (hl1 : L1.length ≤ 600) (hl2 : L2.length ≤ 600) (hT : T1 ≤ 16) : Calls Try.prog 14 #[.pointer (some ⟨rb, 0, none⟩), .pointer (some ⟨rc, 0, none⟩)] w fun e w' => e = .returned (.bool (rsameS T1 S1 M1 L1 T2 S2 M2 L2)) ∧ Kp w w' [] := by
  have HAL := hid (And.intro (fun (z : World) (hk : Kp w z []) (t : Int) => rall_any z rb Q1 T1 S1 M1 L1 t (h.same hk) o1 hl1) (fun (z : World) (hk : Kp w z []) (t : Int) => rall_any z rc Q2 T2 S2 M2 L2 t (h'.same hk) o2 hl2))
  have HST := hid (fun (z : World) (hk : Kp w z []) => (show z.cell? ⟨rb, 0, none⟩ = some (.int .i64 (T1 : Nat)) ∧ z.cell? ⟨rb, 1, none⟩ = some (.int .i64 (S1 : Nat)) ∧ z.rangeAt rb 2 (vU M1) ∧ z.cell? ⟨rc, 0, none⟩ = some (.int .i64 (T2 : Nat)) ∧ z.cell? ⟨rc, 1, none⟩ = some (.int .i64 (S2 : Nat)) ∧ z.rangeAt rc 2 (vU M2) from by
    obtain ⟨V1, -, x1, -⟩ := h.same hk
    obtain ⟨V2, -, x2, -⟩ := h'.same hk
    exact ⟨x1.thr, x1.slt, x1.rowM, x2.thr, x2.slt, x2.rowM⟩))
  have hgd := fun (w : World) (x y : Operand) (xs ys : Array Value) => run_eqGuard_agg (P := Try.prog) w .neq 58 x y xs ys (by kernel_rfl)
  have HEM := hid (fun (W : World) => arrN M1 M2 W)
  have HLL := hid (fun t => Nat.le_trans (allV_len T2 L2 t) hl2)
  unfold rsameS
  generalize eqM M1 M2 = BM at HEM ⊢
  clear h h' o1 o2 hl1 hl2
  by_cases hx : T1 = T2
  · have hb : ((T1 : Int) == (T2 : Int)) = true := by simp [hx]
    rw [decide_eq_true hx, Bool.true_and]
    by_cases hy : S1 = S2
    · have hc : ((S1 : Int) == (S2 : Int)) = true := by simp [hy]
      rw [decide_eq_true hy, Bool.true_and]
      cases BM with
      | false =>
        rw [Bool.false_and]
        go_enter Try.func14, Try.ntmps14
        go_wp2_with fail
        rename_i QQ KK hKK
        have K0 := hid (Kp.drew w [])
        refine wp_region_held_drew (S := fun W : World => W.cell? ⟨rb, 0, none⟩ = some (.int .i64 (T1 : Nat)) ∧ W.cell? ⟨rb, 1, none⟩ = some (.int .i64 (S1 : Nat)) ∧ W.rangeAt rb 2 (vU M1) ∧ W.cell? ⟨rc, 0, none⟩ = some (.int .i64 (T2 : Nat)) ∧ W.cell? ⟨rc, 1, none⟩ = some (.int .i64 (S2 : Nat)) ∧ W.rangeAt rc 2 (vU M2)) (by kernel_rfl) (HST.out _ (Kp.drew _ _)) (fun hHeld => ?_)
        refine wpAnyH_take (i := 0) (v := .pointer (some ⟨rb, 0, none⟩)) rfl (by kernel_rfl) (by kernel_rfl) (by kernel_rfl) (fun _ _ _ h => h) (Or.inl ⟨by kernel_rfl, fun w _ => by kernel_rfl⟩) hHeld ?_
        refine wpAnyH_take (i := 1) (v := .pointer (some ⟨rb, 0, none⟩)) rfl (by kernel_rfl) (by kernel_rfl) (by kernel_rfl) (fun _ _ _ h => h) (Or.inl ⟨by kernel_rfl, fun w _ => by kernel_rfl⟩) hHeld ?_
        refine wpAnyH_take (i := 2) (v := .pointer (some ⟨rb, 0, none⟩)) rfl (by kernel_rfl) (by kernel_rfl) (by kernel_rfl) (fun _ _ _ h => h) (Or.inl ⟨by kernel_rfl, fun w _ => by kernel_rfl⟩) hHeld ?_
        refine wpAnyH_take (i := 3) (v := .int .i64 (T1 : Nat)) rfl (by kernel_rfl) (by kernel_rfl) (by kernel_rfl) (fun _ _ _ h => h) (Or.inl ⟨by kernel_rfl, by intro w hSw; obtain ⟨q1, q2, q3, q4, q5, q6⟩ := hSw; clear q3 q6; go_simp⟩) hHeld ?_
        refine wpAnyH_take (i := 4) (v := .pointer (some ⟨rc, 0, none⟩)) rfl (by kernel_rfl) (by kernel_rfl) (by kernel_rfl) (fun _ _ _ h => h) (Or.inl ⟨by kernel_rfl, fun w _ => by kernel_rfl⟩) hHeld ?_
        refine wpAnyH_take (i := 5) (v := .pointer (some ⟨rc, 0, none⟩)) rfl (by kernel_rfl) (by kernel_rfl) (by kernel_rfl) (fun _ _ _ h => h) (Or.inl ⟨by kernel_rfl, fun w _ => by kernel_rfl⟩) hHeld ?_
        refine wpAnyH_take (i := 6) (v := .pointer (some ⟨rc, 0, none⟩)) rfl (by kernel_rfl) (by kernel_rfl) (by kernel_rfl) (fun _ _ _ h => h) (Or.inl ⟨by kernel_rfl, fun w _ => by kernel_rfl⟩) hHeld ?_
        refine wpAnyH_take (i := 7) (v := .int .i64 (T2 : Nat)) rfl (by kernel_rfl) (by kernel_rfl) (by kernel_rfl) (fun _ _ _ h => h) (Or.inl ⟨by kernel_rfl, by intro w hSw; obtain ⟨q1, q2, q3, q4, q5, q6⟩ := hSw; clear q3 q6; go_simp⟩) hHeld ?_
        refine wpAnyH_take (i := 8) (v := .bool false) rfl (by kernel_rfl) (by kernel_rfl) (by kernel_rfl) (fun _ _ _ h => h) (Or.inl ⟨by kernel_rfl, fun w _ => by go_simp⟩) hHeld ?_
        refine wpAnyH_take (i := 9) (v := .bool false) rfl (by kernel_rfl) (by kernel_rfl) (by kernel_rfl) (fun _ _ _ h => h) (Or.inl ⟨by kernel_rfl, fun w _ => by kernel_rfl⟩) hHeld ?_
        refine wpAnyH_take (i := 10) (v := .pointer (some ⟨rb, 0, none⟩)) rfl (by kernel_rfl) (by kernel_rfl) (by kernel_rfl) (fun _ _ _ h => h) (Or.inl ⟨by kernel_rfl, fun w _ => by kernel_rfl⟩) hHeld ?_
        refine wpAnyH_take (i := 11) (v := .pointer (some ⟨rb, 0, none⟩)) rfl (by kernel_rfl) (by kernel_rfl) (by kernel_rfl) (fun _ _ _ h => h) (Or.inl ⟨by kernel_rfl, fun w _ => by kernel_rfl⟩) hHeld ?_
        refine wpAnyH_take (i := 12) (v := .pointer (some ⟨rb, 1, none⟩)) rfl (by kernel_rfl) (by kernel_rfl) (by kernel_rfl) (fun _ _ _ h => h) (Or.inl ⟨by kernel_rfl, fun w _ => by kernel_rfl⟩) hHeld ?_
        refine wpAnyH_take (i := 13) (v := .int .i64 (S1 : Nat)) rfl (by kernel_rfl) (by kernel_rfl) (by kernel_rfl) (fun _ _ _ h => h) (Or.inl ⟨by kernel_rfl, by intro w hSw; obtain ⟨q1, q2, q3, q4, q5, q6⟩ := hSw; clear q3 q6; go_simp⟩) hHeld ?_
        refine wpAnyH_take (i := 14) (v := .pointer (some ⟨rc, 0, none⟩)) rfl (by kernel_rfl) (by kernel_rfl) (by kernel_rfl) (fun _ _ _ h => h) (Or.inl ⟨by kernel_rfl, fun w _ => by kernel_rfl⟩) hHeld ?_
        refine wpAnyH_take (i := 15) (v := .pointer (some ⟨rc, 0, none⟩)) rfl (by kernel_rfl) (by kernel_rfl) (by kernel_rfl) (fun _ _ _ h => h) (Or.inl ⟨by kernel_rfl, fun w _ => by kernel_rfl⟩) hHeld ?_
        refine wpAnyH_take (i := 16) (v := .pointer (some ⟨rc, 1, none⟩)) rfl (by kernel_rfl) (by kernel_rfl) (by kernel_rfl) (fun _ _ _ h => h) (Or.inl ⟨by kernel_rfl, fun w _ => by kernel_rfl⟩) hHeld ?_
        refine wpAnyH_take (i := 17) (v := .int .i64 (S2 : Nat)) rfl (by kernel_rfl) (by kernel_rfl) (by kernel_rfl) (fun _ _ _ h => h) (Or.inl ⟨by kernel_rfl, by intro w hSw; obtain ⟨q1, q2, q3, q4, q5, q6⟩ := hSw; clear q3 q6; go_simp⟩) hHeld ?_
        refine wpAnyH_take (i := 18) (v := .bool false) rfl (by kernel_rfl) (by kernel_rfl) (by kernel_rfl) (fun _ _ _ h => h) (Or.inl ⟨by kernel_rfl, fun w _ => by go_simp⟩) hHeld ?_
        refine wpAnyH_take (i := 19) (v := .bool false) rfl (by kernel_rfl) (by kernel_rfl) (by kernel_rfl) (fun _ _ _ h => h) (Or.inl ⟨by kernel_rfl, fun w _ => by kernel_rfl⟩) hHeld ?_
        refine wpAnyH_take (i := 20) (v := .bool false) rfl (by kernel_rfl) (by kernel_rfl) (by kernel_rfl) (fun _ _ _ h => h) (Or.inl ⟨by kernel_rfl, fun w _ => by kernel_rfl⟩) hHeld ?_
        refine wpAnyH_take (i := 21) (v := .pointer (some ⟨rb, 0, none⟩)) rfl (by kernel_rfl) (by kernel_rfl) (by kernel_rfl) (fun _ _ _ h => h) (Or.inl ⟨by kernel_rfl, fun w _ => by kernel_rfl⟩) hHeld ?_
        refine wpAnyH_take (i := 22) (v := .pointer (some ⟨rb, 0, none⟩)) rfl (by kernel_rfl) (by kernel_rfl) (by kernel_rfl) (fun _ _ _ h => h) (Or.inl ⟨by kernel_rfl, fun w _ => by kernel_rfl⟩) hHeld ?_
        refine wpAnyH_take (i := 23) (v := .pointer (some ⟨rb, 2, none⟩)) rfl (by kernel_rfl) (by kernel_rfl) (by kernel_rfl) (fun _ _ _ h => h) (Or.inl ⟨by kernel_rfl, fun w _ => by kernel_rfl⟩) hHeld ?_
        refine wpAnyH_take (i := 24) (v := .agg (vU M1).toArray) rfl (by kernel_rfl) (by kernel_rfl) (by kernel_rfl) (fun _ _ _ h => h) (yieldsIf_load_mid (by kernel_rfl) 58 (.tmp 44) rfl rb 2 (by kernel_rfl) _ _ (fun _ hw => hw.2.2.1) Try.underlying58 rfl (size58 _)) hHeld ?_
        refine wpAnyH_take (i := 25) (v := .pointer (some ⟨rc, 0, none⟩)) rfl (by kernel_rfl) (by kernel_rfl) (by kernel_rfl) (fun _ _ _ h => h) (Or.inl ⟨by kernel_rfl, fun w _ => by kernel_rfl⟩) hHeld ?_
        refine wpAnyH_take (i := 26) (v := .pointer (some ⟨rc, 0, none⟩)) rfl (by kernel_rfl) (by kernel_rfl) (by kernel_rfl) (fun _ _ _ h => h) (Or.inl ⟨by kernel_rfl, fun w _ => by kernel_rfl⟩) hHeld ?_
        refine wpAnyH_take (i := 27) (v := .pointer (some ⟨rc, 2, none⟩)) rfl (by kernel_rfl) (by kernel_rfl) (by kernel_rfl) (fun _ _ _ h => h) (Or.inl ⟨by kernel_rfl, fun w _ => by kernel_rfl⟩) hHeld ?_
        refine wpAnyH_take (i := 28) (v := .agg (vU M2).toArray) rfl (by kernel_rfl) (by kernel_rfl) (by kernel_rfl) (fun _ _ _ h => h) (yieldsIf_load_mid (by kernel_rfl) 58 (.tmp 48) rfl rc 2 (by kernel_rfl) _ _ (fun _ hw => hw.2.2.2.2.2) Try.underlying58 rfl (size58 _)) hHeld ?_
        refine wpAnyH_take (i := 29) (v := .bool true) rfl (by kernel_rfl) (by kernel_rfl) (by kernel_rfl) (fun _ _ _ h => h) (yieldsIf_neq (by kernel_rfl) 58 (.tmp 45) (.tmp 49) 58 rfl _ _ (by kernel_rfl) (by kernel_rfl) _ (fun w => hgd w _ _ _ _) HEM.out) hHeld ?_
        refine wpAnyH_take (i := 30) (v := .bool true) rfl (by kernel_rfl) (by kernel_rfl) (by kernel_rfl) (fun _ _ _ h => h) (Or.inl ⟨by kernel_rfl, fun w _ => by kernel_rfl⟩) hHeld ?_
        refine wpAnyH_done (by kernel_rfl) ?_ _
        refine hKK _ _ ?_
        refine act_eq (a' := ⟨#[.pointer (some ⟨rb, 0, none⟩), .pointer (some ⟨rc, 0, none⟩), undef, undef, .bool false, undef, undef, undef, undef, .pointer (some ⟨rb, 0, none⟩), .bool false, .bool false, .pointer (some ⟨rc, 0, none⟩), .bool false, .bool false, undef, undef, undef, undef, undef, undef, .pointer (some ⟨rb, 0, none⟩), .pointer (some ⟨rb, 0, none⟩), .pointer (some ⟨rb, 0, none⟩), .int .i64 (T1 : Nat), .pointer (some ⟨rc, 0, none⟩), .pointer (some ⟨rc, 0, none⟩), .pointer (some ⟨rc, 0, none⟩), .int .i64 (T2 : Nat), .bool false, .bool false, .pointer (some ⟨rb, 0, none⟩), .pointer (some ⟨rb, 0, none⟩), .pointer (some ⟨rb, 1, none⟩), .int .i64 (S1 : Nat), .pointer (some ⟨rc, 0, none⟩), .pointer (some ⟨rc, 0, none⟩), .pointer (some ⟨rc, 1, none⟩), .int .i64 (S2 : Nat), .bool false, .bool false, .bool false, .pointer (some ⟨rb, 0, none⟩), .pointer (some ⟨rb, 0, none⟩), .pointer (some ⟨rb, 2, none⟩), .agg (vU M1).toArray, .pointer (some ⟨rc, 0, none⟩), .pointer (some ⟨rc, 0, none⟩), .pointer (some ⟨rc, 2, none⟩), .agg (vU M2).toArray, .bool true, .bool true, undef, undef, undef, undef, undef, undef, undef, undef, undef, undef, undef, undef, undef, undef, undef, undef, undef, undef, undef, undef, undef, undef, undef, undef, undef, undef, undef, undef, undef, undef, undef, undef, undef, undef], []⟩) (by kernel_rfl) ?_
        generalize Value.agg (vU M1).toArray = A1
        generalize Value.agg (vU M2).toArray = A2
        clear HST HAL
        go_wp2
        go_ret
        exact ⟨rfl, K0.out⟩
      | true =>
        rw [Bool.true_and]
        subst hx hy
        obtain ⟨B, hB⟩ : ∃ B, (List.range T1).all (fun t => decide (allV T1 L1 (t : Nat) = allV T1 L2 (t : Nat))) = B := ⟨_, rfl⟩
        rw [hB]
        have HB := hid hB
        clear hB
        go_enter Try.func14, Try.ntmps14
        go_wp2_with fail
        rename_i QQ KK hKK
        have K0 := hid (Kp.drew w [])
        refine wp_region_held_drew (S := fun W : World => W.cell? ⟨rb, 0, none⟩ = some (.int .i64 (T1 : Nat)) ∧ W.cell? ⟨rb, 1, none⟩ = some (.int .i64 (S1 : Nat)) ∧ W.rangeAt rb 2 (vU M1) ∧ W.cell? ⟨rc, 0, none⟩ = some (.int .i64 (T1 : Nat)) ∧ W.cell? ⟨rc, 1, none⟩ = some (.int .i64 (S1 : Nat)) ∧ W.rangeAt rc 2 (vU M2)) (by kernel_rfl) (HST.out _ (Kp.drew _ _)) (fun hHeld => ?_)
        refine wpAnyH_take (i := 0) (v := .pointer (some ⟨rb, 0, none⟩)) rfl (by kernel_rfl) (by kernel_rfl) (by kernel_rfl) (fun _ _ _ h => h) (Or.inl ⟨by kernel_rfl, fun w _ => by kernel_rfl⟩) hHeld ?_
        refine wpAnyH_take (i := 1) (v := .pointer (some ⟨rb, 0, none⟩)) rfl (by kernel_rfl) (by kernel_rfl) (by kernel_rfl) (fun _ _ _ h => h) (Or.inl ⟨by kernel_rfl, fun w _ => by kernel_rfl⟩) hHeld ?_
        refine wpAnyH_take (i := 2) (v := .pointer (some ⟨rb, 0, none⟩)) rfl (by kernel_rfl) (by kernel_rfl) (by kernel_rfl) (fun _ _ _ h => h) (Or.inl ⟨by kernel_rfl, fun w _ => by kernel_rfl⟩) hHeld ?_
        refine wpAnyH_take (i := 3) (v := .int .i64 (T1 : Nat)) rfl (by kernel_rfl) (by kernel_rfl) (by kernel_rfl) (fun _ _ _ h => h) (Or.inl ⟨by kernel_rfl, by intro w hSw; obtain ⟨q1, q2, q3, q4, q5, q6⟩ := hSw; clear q3 q6; go_simp⟩) hHeld ?_
        refine wpAnyH_take (i := 4) (v := .pointer (some ⟨rc, 0, none⟩)) rfl (by kernel_rfl) (by kernel_rfl) (by kernel_rfl) (fun _ _ _ h => h) (Or.inl ⟨by kernel_rfl, fun w _ => by kernel_rfl⟩) hHeld ?_
        refine wpAnyH_take (i := 5) (v := .pointer (some ⟨rc, 0, none⟩)) rfl (by kernel_rfl) (by kernel_rfl) (by kernel_rfl) (fun _ _ _ h => h) (Or.inl ⟨by kernel_rfl, fun w _ => by kernel_rfl⟩) hHeld ?_
        refine wpAnyH_take (i := 6) (v := .pointer (some ⟨rc, 0, none⟩)) rfl (by kernel_rfl) (by kernel_rfl) (by kernel_rfl) (fun _ _ _ h => h) (Or.inl ⟨by kernel_rfl, fun w _ => by kernel_rfl⟩) hHeld ?_
        refine wpAnyH_take (i := 7) (v := .int .i64 (T1 : Nat)) rfl (by kernel_rfl) (by kernel_rfl) (by kernel_rfl) (fun _ _ _ h => h) (Or.inl ⟨by kernel_rfl, by intro w hSw; obtain ⟨q1, q2, q3, q4, q5, q6⟩ := hSw; clear q3 q6; go_simp⟩) hHeld ?_
        refine wpAnyH_take (i := 8) (v := .bool false) rfl (by kernel_rfl) (by kernel_rfl) (by kernel_rfl) (fun _ _ _ h => h) (Or.inl ⟨by kernel_rfl, fun w _ => by go_simp⟩) hHeld ?_
        refine wpAnyH_take (i := 9) (v := .bool false) rfl (by kernel_rfl) (by kernel_rfl) (by kernel_rfl) (fun _ _ _ h => h) (Or.inl ⟨by kernel_rfl, fun w _ => by kernel_rfl⟩) hHeld ?_
        refine wpAnyH_take (i := 10) (v := .pointer (some ⟨rb, 0, none⟩)) rfl (by kernel_rfl) (by kernel_rfl) (by kernel_rfl) (fun _ _ _ h => h) (Or.inl ⟨by kernel_rfl, fun w _ => by kernel_rfl⟩) hHeld ?_
        refine wpAnyH_take (i := 11) (v := .pointer (some ⟨rb, 0, none⟩)) rfl (by kernel_rfl) (by kernel_rfl) (by kernel_rfl) (fun _ _ _ h => h) (Or.inl ⟨by kernel_rfl, fun w _ => by kernel_rfl⟩) hHeld ?_
        refine wpAnyH_take (i := 12) (v := .pointer (some ⟨rb, 1, none⟩)) rfl (by kernel_rfl) (by kernel_rfl) (by kernel_rfl) (fun _ _ _ h => h) (Or.inl ⟨by kernel_rfl, fun w _ => by kernel_rfl⟩) hHeld ?_
        refine wpAnyH_take (i := 13) (v := .int .i64 (S1 : Nat)) rfl (by kernel_rfl) (by kernel_rfl) (by kernel_rfl) (fun _ _ _ h => h) (Or.inl ⟨by kernel_rfl, by intro w hSw; obtain ⟨q1, q2, q3, q4, q5, q6⟩ := hSw; clear q3 q6; go_simp⟩) hHeld ?_
        refine wpAnyH_take (i := 14) (v := .pointer (some ⟨rc, 0, none⟩)) rfl (by kernel_rfl) (by kernel_rfl) (by kernel_rfl) (fun _ _ _ h => h) (Or.inl ⟨by kernel_rfl, fun w _ => by kernel_rfl⟩) hHeld ?_
        refine wpAnyH_take (i := 15) (v := .pointer (some ⟨rc, 0, none⟩)) rfl (by kernel_rfl) (by kernel_rfl) (by kernel_rfl) (fun _ _ _ h => h) (Or.inl ⟨by kernel_rfl, fun w _ => by kernel_rfl⟩) hHeld ?_
        refine wpAnyH_take (i := 16) (v := .pointer (some ⟨rc, 1, none⟩)) rfl (by kernel_rfl) (by kernel_rfl) (by kernel_rfl) (fun _ _ _ h => h) (Or.inl ⟨by kernel_rfl, fun w _ => by kernel_rfl⟩) hHeld ?_
        refine wpAnyH_take (i := 17) (v := .int .i64 (S1 : Nat)) rfl (by kernel_rfl) (by kernel_rfl) (by kernel_rfl) (fun _ _ _ h => h) (Or.inl ⟨by kernel_rfl, by intro w hSw; obtain ⟨q1, q2, q3, q4, q5, q6⟩ := hSw; clear q3 q6; go_simp⟩) hHeld ?_
        refine wpAnyH_take (i := 18) (v := .bool false) rfl (by kernel_rfl) (by kernel_rfl) (by kernel_rfl) (fun _ _ _ h => h) (Or.inl ⟨by kernel_rfl, fun w _ => by go_simp⟩) hHeld ?_
        refine wpAnyH_take (i := 19) (v := .bool false) rfl (by kernel_rfl) (by kernel_rfl) (by kernel_rfl) (fun _ _ _ h => h) (Or.inl ⟨by kernel_rfl, fun w _ => by kernel_rfl⟩) hHeld ?_
        refine wpAnyH_take (i := 20) (v := .bool false) rfl (by kernel_rfl) (by kernel_rfl) (by kernel_rfl) (fun _ _ _ h => h) (Or.inl ⟨by kernel_rfl, fun w _ => by kernel_rfl⟩) hHeld ?_
        refine wpAnyH_take (i := 21) (v := .pointer (some ⟨rb, 0, none⟩)) rfl (by kernel_rfl) (by kernel_rfl) (by kernel_rfl) (fun _ _ _ h => h) (Or.inl ⟨by kernel_rfl, fun w _ => by kernel_rfl⟩) hHeld ?_
        refine wpAnyH_take (i := 22) (v := .pointer (some ⟨rb, 0, none⟩)) rfl (by kernel_rfl) (by kernel_rfl) (by kernel_rfl) (fun _ _ _ h => h) (Or.inl ⟨by kernel_rfl, fun w _ => by kernel_rfl⟩) hHeld ?_
        refine wpAnyH_take (i := 23) (v := .pointer (some ⟨rb, 2, none⟩)) rfl (by kernel_rfl) (by kernel_rfl) (by kernel_rfl) (fun _ _ _ h => h) (Or.inl ⟨by kernel_rfl, fun w _ => by kernel_rfl⟩) hHeld ?_
        refine wpAnyH_take (i := 24) (v := .agg (vU M1).toArray) rfl (by kernel_rfl) (by kernel_rfl) (by kernel_rfl) (fun _ _ _ h => h) (yieldsIf_load_mid (by kernel_rfl) 58 (.tmp 44) rfl rb 2 (by kernel_rfl) _ _ (fun _ hw => hw.2.2.1) Try.underlying58 rfl (size58 _)) hHeld ?_
        refine wpAnyH_take (i := 25) (v := .pointer (some ⟨rc, 0, none⟩)) rfl (by kernel_rfl) (by kernel_rfl) (by kernel_rfl) (fun _ _ _ h => h) (Or.inl ⟨by kernel_rfl, fun w _ => by kernel_rfl⟩) hHeld ?_
        refine wpAnyH_take (i := 26) (v := .pointer (some ⟨rc, 0, none⟩)) rfl (by kernel_rfl) (by kernel_rfl) (by kernel_rfl) (fun _ _ _ h => h) (Or.inl ⟨by kernel_rfl, fun w _ => by kernel_rfl⟩) hHeld ?_
        refine wpAnyH_take (i := 27) (v := .pointer (some ⟨rc, 2, none⟩)) rfl (by kernel_rfl) (by kernel_rfl) (by kernel_rfl) (fun _ _ _ h => h) (Or.inl ⟨by kernel_rfl, fun w _ => by kernel_rfl⟩) hHeld ?_
        refine wpAnyH_take (i := 28) (v := .agg (vU M2).toArray) rfl (by kernel_rfl) (by kernel_rfl) (by kernel_rfl) (fun _ _ _ h => h) (yieldsIf_load_mid (by kernel_rfl) 58 (.tmp 48) rfl rc 2 (by kernel_rfl) _ _ (fun _ hw => hw.2.2.2.2.2) Try.underlying58 rfl (size58 _)) hHeld ?_
        refine wpAnyH_take (i := 29) (v := .bool false) rfl (by kernel_rfl) (by kernel_rfl) (by kernel_rfl) (fun _ _ _ h => h) (yieldsIf_neq (by kernel_rfl) 58 (.tmp 45) (.tmp 49) 58 rfl _ _ (by kernel_rfl) (by kernel_rfl) _ (fun w => hgd w _ _ _ _) HEM.out) hHeld ?_
        refine wpAnyH_take (i := 30) (v := .bool false) rfl (by kernel_rfl) (by kernel_rfl) (by kernel_rfl) (fun _ _ _ h => h) (Or.inl ⟨by kernel_rfl, fun w _ => by kernel_rfl⟩) hHeld ?_
        refine wpAnyH_done (by kernel_rfl) ?_ _
        refine hKK _ _ ?_
        refine act_eq (a' := ⟨#[.pointer (some ⟨rb, 0, none⟩), .pointer (some ⟨rc, 0, none⟩), undef, undef, .bool false, undef, undef, undef, undef, .pointer (some ⟨rb, 0, none⟩), .bool false, .bool false, .pointer (some ⟨rc, 0, none⟩), .bool false, .bool false, undef, undef, undef, undef, undef, undef, .pointer (some ⟨rb, 0, none⟩), .pointer (some ⟨rb, 0, none⟩), .pointer (some ⟨rb, 0, none⟩), .int .i64 (T1 : Nat), .pointer (some ⟨rc, 0, none⟩), .pointer (some ⟨rc, 0, none⟩), .pointer (some ⟨rc, 0, none⟩), .int .i64 (T1 : Nat), .bool false, .bool false, .pointer (some ⟨rb, 0, none⟩), .pointer (some ⟨rb, 0, none⟩), .pointer (some ⟨rb, 1, none⟩), .int .i64 (S1 : Nat), .pointer (some ⟨rc, 0, none⟩), .pointer (some ⟨rc, 0, none⟩), .pointer (some ⟨rc, 1, none⟩), .int .i64 (S1 : Nat), .bool false, .bool false, .bool false, .pointer (some ⟨rb, 0, none⟩), .pointer (some ⟨rb, 0, none⟩), .pointer (some ⟨rb, 2, none⟩), .agg (vU M1).toArray, .pointer (some ⟨rc, 0, none⟩), .pointer (some ⟨rc, 0, none⟩), .pointer (some ⟨rc, 2, none⟩), .agg (vU M2).toArray, .bool false, .bool false, undef, undef, undef, undef, undef, undef, undef, undef, undef, undef, undef, undef, undef, undef, undef, undef, undef, undef, undef, undef, undef, undef, undef, undef, undef, undef, undef, undef, undef, undef, undef, undef, undef, undef], []⟩) (by kernel_rfl) ?_
        generalize Value.agg (vU M1).toArray = A1
        generalize Value.agg (vU M2).toArray = A2
        have hgd2 := fun (w : World) (p q : Operand) (xs ys : Array Value) => run_eqGuard_agg (P := Try.prog) w .neq 47 p q xs ys (by kernel_rfl)
        clear hgd hb hc
        go_wp2_with fail
        go_loopw [5] (fun vi wr => ∃ k : Nat, k ≤ T1 ∧ vi = .int .i64 k ∧ Hid ((∀ t, t < k → allV T1 L1 (t : Nat) = allV T1 L2 (t : Nat)) ∧ Kp w wr [])) (fun vi _ => T1 - (intOf vi).toNat)
        case atStart => exact ⟨0, by omega, rfl, hid ⟨by intro t ht; omega, K0.out⟩⟩
        case round =>
          obtain ⟨k, hk, rfl, hR⟩ := hrel
          have c1 := (HST.out _ hR.out.2).1
          by_cases hlt : k < T1
          · have hltI : (k : Int) < T1 := by omega
            go_wp2_with fail
            refine (HAL.out.1 _ hR.out.2 k).mono ?_
            rintro e z1 ⟨v1, rfl, hd1, hk1⟩
            obtain ⟨a1, cp1, rfl⟩ := hd1.slice
            have HD1 := hid hd1
            have K1 := hid (hR.out.2.trans hk1)
            clear hd1 hk1
            go_wp2_with fail
            refine (HAL.out.2 _ K1.out k).mono ?_
            rintro e z2 ⟨v2, rfl, hd2, hk2⟩
            obtain ⟨a2, cp2, rfl⟩ := hd2.slice
            have HD2 := hid hd2
            replace HD1 := hid (HD1.out.keep hk2)
            have K2 := hid (K1.out.trans hk2)
            have HP := hid hR.out.1
            clear hd2 hk2 K1 hR c1
            obtain ⟨N1, hN1⟩ : ∃ N, (allV T1 L1 (k : Nat)).length = N := ⟨_, rfl⟩
            obtain ⟨N2, hN2⟩ : ∃ N, (allV T1 L2 (k : Nat)).length = N := ⟨_, rfl⟩
            rw [hN1] at HD1
            rw [hN2] at HD2
            rw [hN1, hN2]
            have HN := hid (And.intro hN1 hN2)
            have hnl : N2 ≤ 600 := hN2 ▸ HLL.out k
            clear hN1 hN2
            have FB := hid (show (allV T1 L1 (k : Nat) = allV T1 L2 (k : Nat) → False) → B = false from fun hne => by
              cases hBB : B with
              | false => rfl
              | true =>
                have := HB.out
                rw [hBB, List.all_eq_true] at this
                exact (hne (of_decide_eq_true (this k (List.mem_range.2 hlt)))).elim)
            by_cases hn : N1 = N2
            · have hn := hn.symm
              subst hn
              have qn : ((N2 : Int) != N2) = false := by simp
              go_wp2_with fail
              go_loopw [8] (fun vi wr => ∃ i : Nat, i ≤ N2 ∧ vi = .int .i64 i ∧ Hid ((allV T1 L1 (k : Nat)).take i = (allV T1 L2 (k : Nat)).take i ∧ Kp z2 wr [])) (fun vi _ => N2 - (intOf vi).toNat)
              case atStart => exact ⟨0, by omega, rfl, hid ⟨by simp, Kp.refl _ _⟩⟩
              case round =>
                obtain ⟨i, hi, rfl, hI⟩ := hrel
                by_cases hlt2 : i < N2
                · have hltJ : (i : Int) < N2 := by omega
                  obtain ⟨⟨x1, x2⟩, hx⟩ : ∃ x, (allV T1 L1 (k : Nat))[i]? = some x := ⟨_, List.getElem?_eq_getElem (by have := HN.out; omega)⟩
                  obtain ⟨⟨y1, y2⟩, hy⟩ : ∃ x, (allV T1 L2 (k : Nat))[i]? = some x := ⟨_, List.getElem?_eq_getElem (by have := HN.out; omega)⟩
                  obtain ⟨g1, rfl, d1, d2⟩ := (HD1.out.keep hI.out.2).at hx
                  obtain ⟨g2, rfl, e1, e2⟩ := (HD2.out.keep hI.out.2).at hy
                  dsimp only at d1 d2 e1 e2
                  have HXY := hid (And.intro hx hy)
                  have hnq := neq47 (x1 : Nat) x2 (y1 : Nat) y2
                  clear hx hy
                  by_cases hq : x1 = y1 ∧ x2 = y2
                  · have hqq : (((x1 : Nat) : Int) == ((y1 : Nat) : Int) && x2 == y2) = true := by simp [hq.1, hq.2]
                    rw [hqq] at hnq
                    have R2 := hid (show ∀ m, (allV T1 L1 (k : Nat)).take (i + 1) = (allV T1 L2 (k : Nat)).take (i + 1) ∧ Kp z2 (wr.drewN m) [] by
                      intro m
                      rw [List.take_add_one, List.take_add_one, HXY.out.1, HXY.out.2, hI.out.1, hq.1, hq.2]
                      exact ⟨rfl, hI.out.2.trans (Kp.drewN _ _ _)⟩)
                    clear hq hqq hI
                    go_wp2_with fail
                    go_quiet (fail)
                    go_wp2
                    go_roundw
                    case rel => exact ⟨i + 1, by omega, by simp, hid (R2.out _)⟩
                    case measure => simp [intOf]; omega
                  · have hqq : (((x1 : Nat) : Int) == ((y1 : Nat) : Int) && x2 == y2) = false := by
                      rw [Bool.eq_false_iff]
                      intro h
                      simp at h
                      exact hq ⟨by omega, h.2⟩
                    rw [hqq] at hnq
                    have hBf : B = false := FB.out fun he => by
                      have := HXY.out.1
                      rw [he, HXY.out.2] at this
                      simp at this
                      exact hq ⟨this.1.symm, this.2.symm⟩
                    subst hBf
                    have R2 := hid (K2.out.trans hI.out.2)
                    clear hq hqq hI
                    go_wp2_with fail
                    go_quiet (fail)
                    go_wp2
                    go_ret
                    exact ⟨rfl, R2.out.trans (Kp.drewN _ _ _)⟩
                · have hltJ : ¬ (i : Int) < N2 := by omega
                  have R2 := hid (show (∀ t, t < k + 1 → allV T1 L1 (t : Nat) = allV T1 L2 (t : Nat)) ∧ Kp w wr [] from by
                    refine ⟨fun t ht => ?_, K2.out.trans hI.out.2⟩
                    by_cases h : t < k
                    · exact HP.out t h
                    · obtain rfl : t = k := by omega
                      have h1 := hI.out.1
                      rw [List.take_of_length_le (by have := HN.out; omega), List.take_of_length_le (by have := HN.out; omega)] at h1
                      exact h1)
                  clear hI
                  go_wp2
                  go_roundw
                  case rel => exact ⟨k + 1, by omega, by simp, R2⟩
                  case measure => simp [intOf]; omega
            · have qn : ((N1 : Int) != N2) = true := by simp; omega
              have qnI : ¬ (N1 : Int) = N2 := by omega
              have hBf : B = false := FB.out fun he => by
                have := HN.out
                rw [he] at this
                exact hn (this.1.symm.trans this.2)
              subst hBf
              go_wp2
              go_ret
              exact ⟨rfl, K2.out⟩
          · have hltI : ¬ (k : Int) < T1 := by omega
            have hBt : B = true := by
              rw [← HB.out, List.all_eq_true]
              intro t ht
              exact decide_eq_true (hR.out.1 t (by have := List.mem_range.1 ht; omega))
            subst hBt
            have R2 := hid hR.out.2
            clear hR
            go_wp2
            go_ret
            exact ⟨rfl, R2.out⟩
    · have hc : ((S1 : Int) == (S2 : Int)) = false := by simp; omega
      have hcI : ¬ (S1 : Int) = (S2 : Int) := by omega
      rw [decide_eq_false hy, Bool.false_and]
      go_enter Try.func14, Try.ntmps14
      go_wp2_with fail
      rename_i QQ KK hKK
      have K0 := hid (Kp.drew w [])
      refine wp_region_held_drew (S := fun W : World => W.cell? ⟨rb, 0, none⟩ = some (.int .i64 (T1 : Nat)) ∧ W.cell? ⟨rb, 1, none⟩ = some (.int .i64 (S1 : Nat)) ∧ W.rangeAt rb 2 (vU M1) ∧ W.cell? ⟨rc, 0, none⟩ = some (.int .i64 (T2 : Nat)) ∧ W.cell? ⟨rc, 1, none⟩ = some (.int .i64 (S2 : Nat)) ∧ W.rangeAt rc 2 (vU M2)) (by kernel_rfl) (HST.out _ (Kp.drew _ _)) (fun hHeld => ?_)
      refine wpAnyH_take (i := 0) (v := .pointer (some ⟨rb, 0, none⟩)) rfl (by kernel_rfl) (by kernel_rfl) (by kernel_rfl) (fun _ _ _ h => h) (Or.inl ⟨by kernel_rfl, fun w _ => by kernel_rfl⟩) hHeld ?_
      refine wpAnyH_take (i := 1) (v := .pointer (some ⟨rb, 0, none⟩)) rfl (by kernel_rfl) (by kernel_rfl) (by kernel_rfl) (fun _ _ _ h => h) (Or.inl ⟨by kernel_rfl, fun w _ => by kernel_rfl⟩) hHeld ?_
      refine wpAnyH_take (i := 2) (v := .pointer (some ⟨rb, 0, none⟩)) rfl (by kernel_rfl) (by kernel_rfl) (by kernel_rfl) (fun _ _ _ h => h) (Or.inl ⟨by kernel_rfl, fun w _ => by kernel_rfl⟩) hHeld ?_
      refine wpAnyH_take (i := 3) (v := .int .i64 (T1 : Nat)) rfl (by kernel_rfl) (by kernel_rfl) (by kernel_rfl) (fun _ _ _ h => h) (Or.inl ⟨by kernel_rfl, by intro w hSw; obtain ⟨q1, q2, q3, q4, q5, q6⟩ := hSw; clear q3 q6; go_simp⟩) hHeld ?_
      refine wpAnyH_take (i := 4) (v := .pointer (some ⟨rc, 0, none⟩)) rfl (by kernel_rfl) (by kernel_rfl) (by kernel_rfl) (fun _ _ _ h => h) (Or.inl ⟨by kernel_rfl, fun w _ => by kernel_rfl⟩) hHeld ?_
      refine wpAnyH_take (i := 5) (v := .pointer (some ⟨rc, 0, none⟩)) rfl (by kernel_rfl) (by kernel_rfl) (by kernel_rfl) (fun _ _ _ h => h) (Or.inl ⟨by kernel_rfl, fun w _ => by kernel_rfl⟩) hHeld ?_
      refine wpAnyH_take (i := 6) (v := .pointer (some ⟨rc, 0, none⟩)) rfl (by kernel_rfl) (by kernel_rfl) (by kernel_rfl) (fun _ _ _ h => h) (Or.inl ⟨by kernel_rfl, fun w _ => by kernel_rfl⟩) hHeld ?_
      refine wpAnyH_take (i := 7) (v := .int .i64 (T2 : Nat)) rfl (by kernel_rfl) (by kernel_rfl) (by kernel_rfl) (fun _ _ _ h => h) (Or.inl ⟨by kernel_rfl, by intro w hSw; obtain ⟨q1, q2, q3, q4, q5, q6⟩ := hSw; clear q3 q6; go_simp⟩) hHeld ?_
      refine wpAnyH_take (i := 8) (v := .bool false) rfl (by kernel_rfl) (by kernel_rfl) (by kernel_rfl) (fun _ _ _ h => h) (Or.inl ⟨by kernel_rfl, fun w _ => by go_simp⟩) hHeld ?_
      refine wpAnyH_take (i := 9) (v := .bool false) rfl (by kernel_rfl) (by kernel_rfl) (by kernel_rfl) (fun _ _ _ h => h) (Or.inl ⟨by kernel_rfl, fun w _ => by kernel_rfl⟩) hHeld ?_
      refine wpAnyH_take (i := 10) (v := .pointer (some ⟨rb, 0, none⟩)) rfl (by kernel_rfl) (by kernel_rfl) (by kernel_rfl) (fun _ _ _ h => h) (Or.inl ⟨by kernel_rfl, fun w _ => by kernel_rfl⟩) hHeld ?_
      refine wpAnyH_take (i := 11) (v := .pointer (some ⟨rb, 0, none⟩)) rfl (by kernel_rfl) (by kernel_rfl) (by kernel_rfl) (fun _ _ _ h => h) (Or.inl ⟨by kernel_rfl, fun w _ => by kernel_rfl⟩) hHeld ?_
      refine wpAnyH_take (i := 12) (v := .pointer (some ⟨rb, 1, none⟩)) rfl (by kernel_rfl) (by kernel_rfl) (by kernel_rfl) (fun _ _ _ h => h) (Or.inl ⟨by kernel_rfl, fun w _ => by kernel_rfl⟩) hHeld ?_
      refine wpAnyH_take (i := 13) (v := .int .i64 (S1 : Nat)) rfl (by kernel_rfl) (by kernel_rfl) (by kernel_rfl) (fun _ _ _ h => h) (Or.inl ⟨by kernel_rfl, by intro w hSw; obtain ⟨q1, q2, q3, q4, q5, q6⟩ := hSw; clear q3 q6; go_simp⟩) hHeld ?_
      refine wpAnyH_take (i := 14) (v := .pointer (some ⟨rc, 0, none⟩)) rfl (by kernel_rfl) (by kernel_rfl) (by kernel_rfl) (fun _ _ _ h => h) (Or.inl ⟨by kernel_rfl, fun w _ => by kernel_rfl⟩) hHeld ?_
      refine wpAnyH_take (i := 15) (v := .pointer (some ⟨rc, 0, none⟩)) rfl (by kernel_rfl) (by kernel_rfl) (by kernel_rfl) (fun _ _ _ h => h) (Or.inl ⟨by kernel_rfl, fun w _ => by kernel_rfl⟩) hHeld ?_
      refine wpAnyH_take (i := 16) (v := .pointer (some ⟨rc, 1, none⟩)) rfl (by kernel_rfl) (by kernel_rfl) (by kernel_rfl) (fun _ _ _ h => h) (Or.inl ⟨by kernel_rfl, fun w _ => by kernel_rfl⟩) hHeld ?_
      refine wpAnyH_take (i := 17) (v := .int .i64 (S2 : Nat)) rfl (by kernel_rfl) (by kernel_rfl) (by kernel_rfl) (fun _ _ _ h => h) (Or.inl ⟨by kernel_rfl, by intro w hSw; obtain ⟨q1, q2, q3, q4, q5, q6⟩ := hSw; clear q3 q6; go_simp⟩) hHeld ?_
      refine wpAnyH_take (i := 18) (v := .bool true) rfl (by kernel_rfl) (by kernel_rfl) (by kernel_rfl) (fun _ _ _ h => h) (Or.inl ⟨by kernel_rfl, fun w _ => by go_simp⟩) hHeld ?_
      refine wpAnyH_take (i := 19) (v := .bool true) rfl (by kernel_rfl) (by kernel_rfl) (by kernel_rfl) (fun _ _ _ h => h) (Or.inl ⟨by kernel_rfl, fun w _ => by kernel_rfl⟩) hHeld ?_
      refine wpAnyH_take (i := 20) (v := .bool true) rfl (by kernel_rfl) (by kernel_rfl) (by kernel_rfl) (fun _ _ _ h => h) (Or.inl ⟨by kernel_rfl, fun w _ => by kernel_rfl⟩) hHeld ?_
      refine wpAnyH_take (i := 21) (v := undef) rfl (by kernel_rfl) (by kernel_rfl) (by kernel_rfl) (fun _ _ _ h => h) (Or.inr ⟨by kernel_rfl, rfl⟩) hHeld ?_
      refine wpAnyH_take (i := 22) (v := undef) rfl (by kernel_rfl) (by kernel_rfl) (by kernel_rfl) (fun _ _ _ h => h) (Or.inr ⟨by kernel_rfl, rfl⟩) hHeld ?_
      refine wpAnyH_take (i := 23) (v := undef) rfl (by kernel_rfl) (by kernel_rfl) (by kernel_rfl) (fun _ _ _ h => h) (Or.inr ⟨by kernel_rfl, rfl⟩) hHeld ?_
      refine wpAnyH_take (i := 24) (v := undef) rfl (by kernel_rfl) (by kernel_rfl) (by kernel_rfl) (fun _ _ _ h => h) (Or.inr ⟨by kernel_rfl, rfl⟩) hHeld ?_
      refine wpAnyH_take (i := 25) (v := undef) rfl (by kernel_rfl) (by kernel_rfl) (by kernel_rfl) (fun _ _ _ h => h) (Or.inr ⟨by kernel_rfl, rfl⟩) hHeld ?_
      refine wpAnyH_take (i := 26) (v := undef) rfl (by kernel_rfl) (by kernel_rfl) (by kernel_rfl) (fun _ _ _ h => h) (Or.inr ⟨by kernel_rfl, rfl⟩) hHeld ?_
      refine wpAnyH_take (i := 27) (v := undef) rfl (by kernel_rfl) (by kernel_rfl) (by kernel_rfl) (fun _ _ _ h => h) (Or.inr ⟨by kernel_rfl, rfl⟩) hHeld ?_
      refine wpAnyH_take (i := 28) (v := undef) rfl (by kernel_rfl) (by kernel_rfl) (by kernel_rfl) (fun _ _ _ h => h) (Or.inr ⟨by kernel_rfl, rfl⟩) hHeld ?_
      refine wpAnyH_take (i := 29) (v := undef) rfl (by kernel_rfl) (by kernel_rfl) (by kernel_rfl) (fun _ _ _ h => h) (Or.inr ⟨by kernel_rfl, rfl⟩) hHeld ?_
      refine wpAnyH_take (i := 30) (v := .bool true) rfl (by kernel_rfl) (by kernel_rfl) (by kernel_rfl) (fun _ _ _ h => h) (Or.inl ⟨by kernel_rfl, fun w _ => by kernel_rfl⟩) hHeld ?_
      refine wpAnyH_done (by kernel_rfl) ?_ _
      refine hKK _ _ ?_
      refine act_eq (a' := ⟨#[.pointer (some ⟨rb, 0, none⟩), .pointer (some ⟨rc, 0, none⟩), undef, undef, .bool false, undef, undef, undef, undef, .pointer (some ⟨rb, 0, none⟩), .bool false, .bool false, .pointer (some ⟨rc, 0, none⟩), .bool false, .bool false, undef, undef, undef, undef, undef, undef, .pointer (some ⟨rb, 0, none⟩), .pointer (some ⟨rb, 0, none⟩), .pointer (some ⟨rb, 0, none⟩), .int .i64 (T1 : Nat), .pointer (some ⟨rc, 0, none⟩), .pointer (some ⟨rc, 0, none⟩), .pointer (some ⟨rc, 0, none⟩), .int .i64 (T2 : Nat), .bool false, .bool false, .pointer (some ⟨rb, 0, none⟩), .pointer (some ⟨rb, 0, none⟩), .pointer (some ⟨rb, 1, none⟩), .int .i64 (S1 : Nat), .pointer (some ⟨rc, 0, none⟩), .pointer (some ⟨rc, 0, none⟩), .pointer (some ⟨rc, 1, none⟩), .int .i64 (S2 : Nat), .bool true, .bool true, .bool true, undef, undef, undef, undef, undef, undef, undef, undef, undef, .bool true, undef, undef, undef, undef, undef, undef, undef, undef, undef, undef, undef, undef, undef, undef, undef, undef, undef, undef, undef, undef, undef, undef, undef, undef, undef, undef, undef, undef, undef, undef, undef, undef, undef, undef], []⟩) (by kernel_rfl) ?_
      clear HST HAL
      go_wp2
      go_ret
      exact ⟨rfl, K0.out⟩
  · have hb : ((T1 : Int) == (T2 : Int)) = false := by simp; omega
    have hbI : ¬ (T1 : Int) = (T2 : Int) := by omega
    rw [decide_eq_false hx, Bool.false_and]
    go_enter Try.func14, Try.ntmps14
    go_wp2_with fail
    rename_i QQ KK hKK
    have K0 := hid (Kp.drew w [])
    refine wp_region_held_drew (S := fun W : World => W.cell? ⟨rb, 0, none⟩ = some (.int .i64 (T1 : Nat)) ∧ W.cell? ⟨rb, 1, none⟩ = some (.int .i64 (S1 : Nat)) ∧ W.rangeAt rb 2 (vU M1) ∧ W.cell? ⟨rc, 0, none⟩ = some (.int .i64 (T2 : Nat)) ∧ W.cell? ⟨rc, 1, none⟩ = some (.int .i64 (S2 : Nat)) ∧ W.rangeAt rc 2 (vU M2)) (by kernel_rfl) (HST.out _ (Kp.drew _ _)) (fun hHeld => ?_)
    refine wpAnyH_take (i := 0) (v := .pointer (some ⟨rb, 0, none⟩)) rfl (by kernel_rfl) (by kernel_rfl) (by kernel_rfl) (fun _ _ _ h => h) (Or.inl ⟨by kernel_rfl, fun w _ => by kernel_rfl⟩) hHeld ?_
    refine wpAnyH_take (i := 1) (v := .pointer (some ⟨rb, 0, none⟩)) rfl (by kernel_rfl) (by kernel_rfl) (by kernel_rfl) (fun _ _ _ h => h) (Or.inl ⟨by kernel_rfl, fun w _ => by kernel_rfl⟩) hHeld ?_
    refine wpAnyH_take (i := 2) (v := .pointer (some ⟨rb, 0, none⟩)) rfl (by kernel_rfl) (by kernel_rfl) (by kernel_rfl) (fun _ _ _ h => h) (Or.inl ⟨by kernel_rfl, fun w _ => by kernel_rfl⟩) hHeld ?_
    refine wpAnyH_take (i := 3) (v := .int .i64 (T1 : Nat)) rfl (by kernel_rfl) (by kernel_rfl) (by kernel_rfl) (fun _ _ _ h => h) (Or.inl ⟨by kernel_rfl, by intro w hSw; obtain ⟨q1, q2, q3, q4, q5, q6⟩ := hSw; clear q3 q6; go_simp⟩) hHeld ?_
    refine wpAnyH_take (i := 4) (v := .pointer (some ⟨rc, 0, none⟩)) rfl (by kernel_rfl) (by kernel_rfl) (by kernel_rfl) (fun _ _ _ h => h) (Or.inl ⟨by kernel_rfl, fun w _ => by kernel_rfl⟩) hHeld ?_
    refine wpAnyH_take (i := 5) (v := .pointer (some ⟨rc, 0, none⟩)) rfl (by kernel_rfl) (by kernel_rfl) (by kernel_rfl) (fun _ _ _ h => h) (Or.inl ⟨by kernel_rfl, fun w _ => by kernel_rfl⟩) hHeld ?_
    refine wpAnyH_take (i := 6) (v := .pointer (some ⟨rc, 0, none⟩)) rfl (by kernel_rfl) (by kernel_rfl) (by kernel_rfl) (fun _ _ _ h => h) (Or.inl ⟨by kernel_rfl, fun w _ => by kernel_rfl⟩) hHeld ?_
    refine wpAnyH_take (i := 7) (v := .int .i64 (T2 : Nat)) rfl (by kernel_rfl) (by kernel_rfl) (by kernel_rfl) (fun _ _ _ h => h) (Or.inl ⟨by kernel_rfl, by intro w hSw; obtain ⟨q1, q2, q3, q4, q5, q6⟩ := hSw; clear q3 q6; go_simp⟩) hHeld ?_
    refine wpAnyH_take (i := 8) (v := .bool true) rfl (by kernel_rfl) (by kernel_rfl) (by kernel_rfl) (fun _ _ _ h => h) (Or.inl ⟨by kernel_rfl, fun w _ => by go_simp⟩) hHeld ?_
    refine wpAnyH_take (i := 9) (v := .bool true) rfl (by kernel_rfl) (by kernel_rfl) (by kernel_rfl) (fun _ _ _ h => h) (Or.inl ⟨by kernel_rfl, fun w _ => by kernel_rfl⟩) hHeld ?_
    refine wpAnyH_take (i := 10) (v := undef) rfl (by kernel_rfl) (by kernel_rfl) (by kernel_rfl) (fun _ _ _ h => h) (Or.inr ⟨by kernel_rfl, rfl⟩) hHeld ?_
    refine wpAnyH_take (i := 11) (v := undef) rfl (by kernel_rfl) (by kernel_rfl) (by kernel_rfl) (fun _ _ _ h => h) (Or.inr ⟨by kernel_rfl, rfl⟩) hHeld ?_
    refine wpAnyH_take (i := 12) (v := undef) rfl (by kernel_rfl) (by kernel_rfl) (by kernel_rfl) (fun _ _ _ h => h) (Or.inr ⟨by kernel_rfl, rfl⟩) hHeld ?_
    refine wpAnyH_take (i := 13) (v := undef) rfl (by kernel_rfl) (by kernel_rfl) (by kernel_rfl) (fun _ _ _ h => h) (Or.inr ⟨by kernel_rfl, rfl⟩) hHeld ?_
    refine wpAnyH_take (i := 14) (v := undef) rfl (by kernel_rfl) (by kernel_rfl) (by kernel_rfl) (fun _ _ _ h => h) (Or.inr ⟨by kernel_rfl, rfl⟩) hHeld ?_
    refine wpAnyH_take (i := 15) (v := undef) rfl (by kernel_rfl) (by kernel_rfl) (by kernel_rfl) (fun _ _ _ h => h) (Or.inr ⟨by kernel_rfl, rfl⟩) hHeld ?_
    refine wpAnyH_take (i := 16) (v := undef) rfl (by kernel_rfl) (by kernel_rfl) (by kernel_rfl) (fun _ _ _ h => h) (Or.inr ⟨by kernel_rfl, rfl⟩) hHeld ?_
    refine wpAnyH_take (i := 17) (v := undef) rfl (by kernel_rfl) (by kernel_rfl) (by kernel_rfl) (fun _ _ _ h => h) (Or.inr ⟨by kernel_rfl, rfl⟩) hHeld ?_
    refine wpAnyH_take (i := 18) (v := undef) rfl (by kernel_rfl) (by kernel_rfl) (by kernel_rfl) (fun _ _ _ h => h) (Or.inr ⟨by kernel_rfl, rfl⟩) hHeld ?_
    refine wpAnyH_take (i := 19) (v := .bool true) rfl (by kernel_rfl) (by kernel_rfl) (by kernel_rfl) (fun _ _ _ h => h) (Or.inl ⟨by kernel_rfl, fun w _ => by kernel_rfl⟩) hHeld ?_
    refine wpAnyH_take (i := 20) (v := .bool true) rfl (by kernel_rfl) (by kernel_rfl) (by kernel_rfl) (fun _ _ _ h => h) (Or.inl ⟨by kernel_rfl, fun w _ => by kernel_rfl⟩) hHeld ?_
    refine wpAnyH_take (i := 21) (v := undef) rfl (by kernel_rfl) (by kernel_rfl) (by kernel_rfl) (fun _ _ _ h => h) (Or.inr ⟨by kernel_rfl, rfl⟩) hHeld ?_
    refine wpAnyH_take (i := 22) (v := undef) rfl (by kernel_rfl) (by kernel_rfl) (by kernel_rfl) (fun _ _ _ h => h) (Or.inr ⟨by kernel_rfl, rfl⟩) hHeld ?_
    refine wpAnyH_take (i := 23) (v := undef) rfl (by kernel_rfl) (by kernel_rfl) (by kernel_rfl) (fun _ _ _ h => h) (Or.inr ⟨by kernel_rfl, rfl⟩) hHeld ?_
    refine wpAnyH_take (i := 24) (v := undef) rfl (by kernel_rfl) (by kernel_rfl) (by kernel_rfl) (fun _ _ _ h => h) (Or.inr ⟨by kernel_rfl, rfl⟩) hHeld ?_
    refine wpAnyH_take (i := 25) (v := undef) rfl (by kernel_rfl) (by kernel_rfl) (by kernel_rfl) (fun _ _ _ h => h) (Or.inr ⟨by kernel_rfl, rfl⟩) hHeld ?_
    refine wpAnyH_take (i := 26) (v := undef) rfl (by kernel_rfl) (by kernel_rfl) (by kernel_rfl) (fun _ _ _ h => h) (Or.inr ⟨by kernel_rfl, rfl⟩) hHeld ?_
    refine wpAnyH_take (i := 27) (v := undef) rfl (by kernel_rfl) (by kernel_rfl) (by kernel_rfl) (fun _ _ _ h => h) (Or.inr ⟨by kernel_rfl, rfl⟩) hHeld ?_
    refine wpAnyH_take (i := 28) (v := undef) rfl (by kernel_rfl) (by kernel_rfl) (by kernel_rfl) (fun _ _ _ h => h) (Or.inr ⟨by kernel_rfl, rfl⟩) hHeld ?_
    refine wpAnyH_take (i := 29) (v := undef) rfl (by kernel_rfl) (by kernel_rfl) (by kernel_rfl) (fun _ _ _ h => h) (Or.inr ⟨by kernel_rfl, rfl⟩) hHeld ?_
    refine wpAnyH_take (i := 30) (v := .bool true) rfl (by kernel_rfl) (by kernel_rfl) (by kernel_rfl) (fun _ _ _ h => h) (Or.inl ⟨by kernel_rfl, fun w _ => by kernel_rfl⟩) hHeld ?_
    refine wpAnyH_done (by kernel_rfl) ?_ _
    refine hKK _ _ ?_
    refine act_eq (a' := ⟨#[.pointer (some ⟨rb, 0, none⟩), .pointer (some ⟨rc, 0, none⟩), undef, undef, .bool false, undef, undef, undef, undef, .pointer (some ⟨rb, 0, none⟩), .bool false, .bool false, .pointer (some ⟨rc, 0, none⟩), .bool false, .bool false, undef, undef, undef, undef, undef, undef, .pointer (some ⟨rb, 0, none⟩), .pointer (some ⟨rb, 0, none⟩), .pointer (some ⟨rb, 0, none⟩), .int .i64 (T1 : Nat), .pointer (some ⟨rc, 0, none⟩), .pointer (some ⟨rc, 0, none⟩), .pointer (some ⟨rc, 0, none⟩), .int .i64 (T2 : Nat), .bool true, .bool true, undef, undef, undef, undef, undef, undef, undef, undef, undef, .bool true, .bool true, undef, undef, undef, undef, undef, undef, undef, undef, undef, .bool true, undef, undef, undef, undef, undef, undef, undef, undef, undef, undef, undef, undef, undef, undef, undef, undef, undef, undef, undef, undef, undef, undef, undef, undef, undef, undef, undef, undef, undef, undef, undef, undef, undef, undef], []⟩) (by kernel_rfl) ?_
    clear HST HAL
    go_wp2
    go_ret
    exact ⟨rfl, K0.out⟩
end Go.Proofs.Ytoenipaccnpihaa
