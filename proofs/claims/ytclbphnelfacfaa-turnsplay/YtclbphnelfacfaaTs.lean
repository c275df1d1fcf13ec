/- Turns: Copy, Same. -/
import Derived.Test.YtclbphnelfacfaaTk
namespace Go.Proofs.Ytclbphnelfacfaa
open Go.RowKit Go.Shelf

section
variable {w w' : World} {xb rb q s : Nat} {S : Sh} {L : Ls}
theorem Rd.copy (h : Rd w rb L s) : Calls Try.prog 48 #[.pointer (some ⟨rb, 0, none⟩)] w fun e w' => e = .returned (.pointer (some ⟨w.heap.size, 0, none⟩)) ∧ Rd w' w.heap.size L s ∧ Kp w w' [] := by
  obtain ⟨c, u, hR, hP⟩ := h
  refine (copy_ok w rb c u s hR hP.not_zero).mono ?_
  rintro e w' ⟨rfl, rfl⟩
  exact ⟨rfl, ⟨c, u, heap_alloc_new w _, hP⟩, Kp.alloc w _ []⟩
/-- The shares, as cells. -/
theorem Tc.range {p : Option Addr} (h : Tc w xb p q S) : w.rangeAt xb 2 (vcl (tG p q S) 32 2) := fun j v hv => by
  have hj : j < 32 := by
    rcases Nat.lt_or_ge j 32 with h' | h'
    · exact h'
    · rw [List.getElem?_eq_none (by rw [vcl_length]; exact h')] at hv; cases hv
  rw [vcl_at _ 32 2 j hj] at hv
  rw [vcl_cell h (2 + j) (by omega)]
  exact hv
theorem step_box {P : Program} {w : World} {ops : Array Oper} {o : Oper} {a : Act} {K : Act → World → Prop} {Q : Exit → Act → World → Prop} {E : Prop} (hgd : o.guard = none) (t : TypeId) (x : Operand) (ho : o.op = .box t x) (D : Nat) (hD : o.dst = some D)
    (cells : Array Value) (hx : (a.eval x).cells = cells) (h : K (a.put (some D) (.pointer (some ⟨w.heap.size, 0, none⟩))) (w.alloc (.cells cells t))) :
    if Region.wanted o (yielded ops a.tmps) = true then Oper.wp P o a w K Q else E := by
  have hw : Region.wanted o (yielded ops a.tmps) = true := by simp [Region.wanted, hgd]
  rw [if_pos hw]
  subst hx
  rw [← hD] at h
  unfold Oper.wp execOp
  simp only [ho, Sem.run_bind, Instr.box, newVar, newRow, run_newObj_alloc, Sem.run_pure, Result.andThen_ok]
  exact h
theorem size58' (F : Nat → Value) : (Try.prog.info? 58).map (·.size) = some (vcl F 32 2).length := by
  rw [vcl_length]
  kernel_rfl
theorem Tc.held {p : Option Addr} (h : Tc w xb p q S) : w.cell? ⟨xb, 0, none⟩ = some (.pointer p) ∧ w.cell? ⟨xb, 1, none⟩ = some (.int .i64 (q : Nat)) ∧ w.rangeAt xb 2 (vcl (tG p q S) 32 2) := ⟨h.seqs, h.quantum, h.range⟩
set_option maxRecDepth 100000 in
set_option maxHeartbeats 1000000 in
theorem Tn.copy (h : Tn w xb rb q S L s) : Calls Try.prog 23 #[.pointer (some ⟨xb, 0, none⟩)] w fun e w' => ∃ xb' rb', e = .returned (.pointer (some ⟨xb', 0, none⟩)) ∧ Tn w' xb' rb' q S L s ∧ Kp w w' [] ∧ w.heap.size ≤ xb' ∧ w.heap.size ≤ rb' := by
  have cz := tzero_ok w xb rb q S h.tc
  have H := hid h
  clear h
  go_enter Try.func23, Try.ntmps23
  go_wp2_with (go_at_call 47; refine cz.mono ?_; rintro e w' ⟨rfl, rfl⟩)
  rename_i QQ KK hKK
  refine wp_region_held_drew (S := fun W : World => W.cell? ⟨xb, 0, none⟩ = some (.pointer (some ⟨rb, 0, none⟩)) ∧ W.cell? ⟨xb, 1, none⟩ = some (.int .i64 (q : Nat)) ∧ W.rangeAt xb 2 (vcl (tG (some ⟨rb, 0, none⟩) q S) 32 2)) (by kernel_rfl) (H.out.same (Kp.drew _ [])).tc.held (fun hHeld => ?_)
  refine wpAnyH_take (i := 0) (v := .pointer (some ⟨xb, 0, none⟩)) rfl (by kernel_rfl) (by kernel_rfl) (by kernel_rfl) (fun _ _ _ h => h) (Or.inl ⟨by kernel_rfl, fun w _ => by kernel_rfl⟩) hHeld ?_
  refine wpAnyH_take (i := 1) (v := .pointer (some ⟨xb, 0, none⟩)) rfl (by kernel_rfl) (by kernel_rfl) (by kernel_rfl) (fun _ _ _ h => h) (Or.inl ⟨by kernel_rfl, fun w _ => by kernel_rfl⟩) hHeld ?_
  refine wpAnyH_take (i := 2) (v := .pointer (some ⟨xb, 0, none⟩)) rfl (by kernel_rfl) (by kernel_rfl) (by kernel_rfl) (fun _ _ _ h => h) (Or.inl ⟨by kernel_rfl, fun w _ => by kernel_rfl⟩) hHeld ?_
  refine wpAnyH_take (i := 3) (v := .pointer (some ⟨rb, 0, none⟩)) rfl (by kernel_rfl) (by kernel_rfl) (by kernel_rfl) (fun _ _ _ h => h) (Or.inl ⟨by kernel_rfl, by intro w hSw; obtain ⟨s1, s2, s3⟩ := hSw; go_simp⟩) hHeld ?_
  refine wpAnyH_take (i := 5) (v := .pointer (some ⟨xb, 0, none⟩)) rfl (by kernel_rfl) (by kernel_rfl) (by kernel_rfl) (fun _ _ _ h => h) (Or.inl ⟨by kernel_rfl, fun w _ => by kernel_rfl⟩) hHeld ?_
  refine wpAnyH_take (i := 6) (v := .pointer (some ⟨xb, 0, none⟩)) rfl (by kernel_rfl) (by kernel_rfl) (by kernel_rfl) (fun _ _ _ h => h) (Or.inl ⟨by kernel_rfl, fun w _ => by kernel_rfl⟩) hHeld ?_
  refine wpAnyH_take (i := 7) (v := .pointer (some ⟨xb, 1, none⟩)) rfl (by kernel_rfl) (by kernel_rfl) (by kernel_rfl) (fun _ _ _ h => h) (Or.inl ⟨by kernel_rfl, fun w _ => by kernel_rfl⟩) hHeld ?_
  refine wpAnyH_take (i := 8) (v := .int .i64 (q : Nat)) rfl (by kernel_rfl) (by kernel_rfl) (by kernel_rfl) (fun _ _ _ h => h) (Or.inl ⟨by kernel_rfl, by intro w hSw; obtain ⟨s1, s2, s3⟩ := hSw; go_simp⟩) hHeld ?_
  refine wpAnyH_take (i := 9) (v := .pointer (some ⟨xb, 0, none⟩)) rfl (by kernel_rfl) (by kernel_rfl) (by kernel_rfl) (fun _ _ _ h => h) (Or.inl ⟨by kernel_rfl, fun w _ => by kernel_rfl⟩) hHeld ?_
  refine wpAnyH_take (i := 10) (v := .pointer (some ⟨xb, 0, none⟩)) rfl (by kernel_rfl) (by kernel_rfl) (by kernel_rfl) (fun _ _ _ h => h) (Or.inl ⟨by kernel_rfl, fun w _ => by kernel_rfl⟩) hHeld ?_
  refine wpAnyH_take (i := 11) (v := .pointer (some ⟨xb, 2, none⟩)) rfl (by kernel_rfl) (by kernel_rfl) (by kernel_rfl) (fun _ _ _ h => h) (Or.inl ⟨by kernel_rfl, fun w _ => by kernel_rfl⟩) hHeld ?_
  refine wpAnyH_take (i := 12) (v := .agg (vcl (tG (some ⟨rb, 0, none⟩) q S) 32 2).toArray) rfl (by kernel_rfl) (by kernel_rfl) (by kernel_rfl) (fun _ _ _ h => h) (yieldsIf_load_mid (by kernel_rfl) 58 (.tmp 16) rfl xb 2 (by kernel_rfl) _ _ (fun _ hw => hw.2.2) Try.underlying58 rfl (size58' _)) hHeld ?_
  refine wpAnyH_ready (rs := [4]) (by kernel_rfl) (by simp) ?_
  refine AllReadyH.cons rfl (fun K hK => ?_) AllReadyH.nil
  go_simp
  refine ((H.out.same (Kp.drew _ [])).rd.copy).mono ?_
  rintro e w4 ⟨rfl, hR, hk4⟩
  have K4 := hid ((Kp.drew w' []).trans hk4)
  have R4 := hid hR
  clear hk4 hR
  go_simp
  refine hK.out _ _ (H.out.same K4.out).tc.held (fun hHeld => ?_)
  refine wpAnyH_take (i := 13) (v := .agg (vcl (tG (some ⟨w'.heap.size, 0, none⟩) q S) 34 0).toArray) rfl (by kernel_rfl) (by kernel_rfl) (by kernel_rfl) (fun _ _ _ h => h) (Or.inl ⟨by kernel_rfl, fun w _ => by kernel_rfl⟩) hHeld ?_
  refine wpAnyH_ready (rs := [14]) (by kernel_rfl) (by simp) ?_
  refine AllReadyH.cons rfl (fun K2 hK2 => ?_) AllReadyH.nil
  clear hK
  refine step_box (by rfl) 60 (.tmp 18) (by rfl) 19 (by rfl) (vcl (tG (some ⟨w'.heap.size, 0, none⟩) q S) 34 0).toArray (by kernel_rfl) ?_
  have K5 := hid (K4.out.trans (Kp.alloc w4 (.cells (vcl (tG (some ⟨w'.heap.size, 0, none⟩) q S) 34 0).toArray 60) []))
  refine hK2.out _ _ (H.out.same K5.out).tc.held (fun hHeld => ?_)
  refine wpAnyH_take (i := 15) (v := .pointer (some ⟨w4.heap.size, 0, none⟩)) rfl (by kernel_rfl) (by kernel_rfl) (by kernel_rfl) (fun _ _ _ h => h) (Or.inl ⟨by kernel_rfl, fun w _ => by kernel_rfl⟩) hHeld ?_
  refine wpAnyH_done (by kernel_rfl) ?_ _
  refine hKK _ _ (wp_ret ?_)
  exact bodyPost_ret (v := .pointer (some ⟨w4.heap.size, 0, none⟩)) (by kernel_rfl) rfl ⟨w4.heap.size, w'.heap.size, rfl, ⟨heap_alloc_new w4 _, R4.out.keep (Kp.alloc w4 _ []) (by simp), H.out.q1, H.out.q2, H.out.left⟩, K5.out, K4.out.size, Nat.le_refl _⟩
end
end Go.Proofs.Ytclbphnelfacfaa
