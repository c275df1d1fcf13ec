/- Check: the walk. -/
import Derived.Test.YtgefmnnkpffpcaaGreatDoorSrealJ
namespace Go.Proofs.YtgefmnnkpffpcaaGreatDoor
open Go.RowKit Go.Maps Go.Shelf
attribute [local go_sem] Oper.semAt_some

def noDefer (ops : Array Oper) : Bool := ops.toList.all fun o => match o.op with | .defer _ => false | _ => true
theorem noDefer_spec {ops : Array Oper} (h : noDefer ops = true) : ∀ (i : Nat) (o : Oper), ops[i]? = some o → ∀ c, o.op ≠ .defer c := by
  intro i o ho c hc
  have := List.all_eq_true.1 h o (Array.mem_toList_iff.2 (Array.mem_of_getElem? ho))
  rw [hc] at this
  simp at this

set_option maxRecDepth 100000 in
theorem zero_no (w : World) (hb rb : Nat) (h : w.cell? ⟨hb, 0, none⟩ = some (.pointer (some ⟨rb, 0, none⟩))) : Calls Tryz.prog 51 #[.pointer (some ⟨hb, 0, none⟩)] w fun e w' => e = .returned (.bool false) ∧ w' = w := by
  go_enter Tryz.func51, Tryz.ntmps51
  go_wp2
  go_ret
  exact ⟨rfl, rfl⟩

set_option maxRecDepth 100000 in
set_option maxHeartbeats 8000000 in
set_option linter.unusedSimpArgs false in
theorem check_ok (w : World) (hb rb mb pb n K S' : Nat) (g : Mem) (c : Int) (P : Pcs) (BL : List (Bq (qB n g))) (hBL : BL.map (·.1) = blocksOf n P) (h : Hp w hb rb mb pb n g c P) (hP : Okp n P) (hl : P.length ≤ 65536) (hlen : BL.length ≤ 131073) (hc : c < 1152921504605000000)
    (hah : ∀ pre x, pre ++ [x] <+: BL → rd n g (x.1.1 + 4) = lastAt (valq pre)) (hK : K ≤ 5000) (hA : chkA n g K 24 0 0 (freeOf (valq BL)) = some (S', [])) (hS : rd n g 0 = S') (h0 : rd n g 100 = 0) (h1 : rd n g 104 = 0) (h2 : rd n g 108 = 0) :
    Calls Tryz.prog 31 #[.pointer (some ⟨hb, 0, none⟩)] w fun e w' => e = .returned (.bool true) ∧ Went w w' hb rb mb pb n g P c 600000 [rb] := by
  refine (callsIn_wide (n := 6)).1 ?_
  have h1' : 1 ≤ 6 := by decide
  have hf50 : Fence.wide.fn 50 := trivial
  have hf51 : Fence.wide.fn 51 := trivial
  have hmm := @run_makeMap Tryz.prog
  have Q0 := hid ((((Kp.alloc w (.cells #[.pointer (some ⟨hb, 0, none⟩)] 23) []).trans (Kp.alloc _ (.cells #[.bool false] 4) []))).cell h.c0cell (by simp))
  have H := hid h
  have HB := hid hBL
  have HP := hid hP
  have HAH := hid hah
  have HA := hid hA
  have HS := hid hS
  have R0 := hid h0
  have R1 := hid h1
  have R2 := hid h2
  clear h hBL hP hah hA hS h0 h1 h2
  refine callsIn_of_wp_marks Tryz.func31 rfl trivial ?_ rfl
  simp only [Tryz.ntmps31, List.size_toArray, List.length_cons, List.length_nil, Nat.reduceAdd, Nat.reduceSub, Array.replicate_succ, Array.replicate_zero, List.push_toArray, List.append_toArray, List.nil_append, List.cons_append]
  gi_wp2_with (gi_at_call 51; refine ((callsIn_wide (n := 5)).2 (zero_no _ hb rb Q0.out)).mono ?_; rintro e w' ⟨rfl, hE⟩; rw [hE]; clear hE)
  gi_wp2_with (gi_at_call 50; refine (all_in _ _ _).mono ?_; rintro e w' ⟨rfl, hE⟩; rw [hE]; clear hE)
  obtain ⟨W0, hW0⟩ : ∃ W0, (((((w.alloc (.cells #[.pointer (some ⟨hb, 0, none⟩)] 23)).alloc (.cells #[.bool false] 4)).alloc (.map #[] 0)).alloc (.cells #[.map (some (w.heap.size + 2))] 65)).alloc (.cells #[.int .i64 0] 3)).alloc (.cells #[.pointer (some ⟨hb, 0, none⟩)] 23) = W0 := ⟨_, rfl⟩
  simp only [Nat.add_assoc, Nat.reduceAdd]
  rw [hW0]
  obtain ⟨hC0, hK0, hsz, hbx⟩ := Cs.new H.out W0 hW0
  have hlt := hC0.lt
  clear hW0 Q0
  refine wpIn_rangeFunc_ownH rfl h1' (gf := 91) (lb := #[.pointer (some ⟨w.heap.size + 5, 0, none⟩)]) rfl trivial (enters_of Tryz.func91 (by kernel_rfl) rfl)
    (all_stops_q (qB n g) 5 (by decide) W0.heap.size (w.heap.size + 5) hb rb mb pb n g c P BL HB.out W0 (H.out.same hK0) HP.out hl (Nat.le_refl _) hbx) Kc.trans (fun W l o o' _ h hc _ => kc_put _ W l o o' h hc) (Below.refl _ _) (fun _ => rfl)
    (fun (pre : List (Bq (qB n g))) W => Cs w W hb rb mb pb n g P c pre.length (lastAt (valq pre)) (freeOf (valq pre)) ∧ w.heap.size + 6 ≤ W.heap.size)
    (fun cc (pre : List (Bq (qB n g))) _ => cc = .ret ∧ ∃ (p : List (Bq (qB n g))) (x : Bq (qB n g)), pre = p ++ [x] ∧ rd n g (x.1.1 + 4) ≠ lastAt (valq p))
    (fun s A B row hs hg hr => ⟨hs.1.own hg (fun r e => by have := (hr r e).1; omega), Nat.le_trans hs.2 hg.size⟩)
    (fun _ _ _ _ _ hs _ _ => hs)
    ⟨hC0, by omega⟩
    (fun x a' W => ∃ p, w.heap.size + 6 ≤ p ∧ bbox W p x.1 ∧ a' = { tmps := #[.pointer (some ⟨hb, 0, none⟩), .pointer (some ⟨w.heap.size, 0, none⟩), .pointer (some ⟨w.heap.size + 1, 0, none⟩), .pointer (some ⟨w.heap.size + 3, 0, none⟩), .pointer (some ⟨w.heap.size + 4, 0, none⟩), .pointer (some ⟨p, 0, none⟩), undef, .pointer (some ⟨hb, 0, none⟩), .bool false, .map (some (w.heap.size + 2)), .pointer (some ⟨hb, 0, none⟩), .func (.func 91) #[] #[.pointer (some ⟨w.heap.size + 5, 0, none⟩)], bval x.1, undef, undef, undef, undef, undef, undef, undef, undef, undef, undef, undef, undef, undef, undef, undef, undef, undef, undef, undef, undef, undef, undef, undef, undef, undef, undef, undef, undef, undef, undef, undef, undef, undef, undef, undef, undef], defers := [] })
    (fun x a' s A B row hs hg hr => by obtain ⟨p, x1, x2, x3⟩ := hs; exact ⟨p, x1, cells_kept x2 hg hr, x3⟩)
    ?assign ?body ?done ?stop
  case assign =>
    rintro l pre x W K ⟨hI, hsW⟩ hK
    have HK := hid hK
    clear hK
    unfold bval
    gi_wp2
    refine HK.out _ _ ((KeepsOthers.alloc _ _).from _) (Kc.of_kp (Kp.alloc _ _ []) (by simp)) ⟨hI.keep (Kp.alloc _ _ []) (by simp), by simp; omega⟩ ⟨W.heap.size, hsW, heap_alloc_new W _, rfl⟩
  case body =>
    rintro l pre x a' W hlw ⟨rr, hrr⟩ ⟨hI, hsW⟩ ⟨p, hp6, hbb, rfl⟩ hpre
    obtain ⟨b0, b1, b2⟩ := hbb.cells
    obtain ⟨⟨hx0, hx1, hx2, hx3⟩, hq0, hq1, hq2⟩ := x.2
    obtain ⟨a, ha⟩ : ∃ a, x.1.1 = a := ⟨_, rfl⟩
    obtain ⟨z, hz⟩ : ∃ z, x.1.2.1 = z := ⟨_, rfl⟩
    obtain ⟨fr, hfr⟩ : ∃ fr, x.1.2.2 = fr := ⟨_, rfl⟩
    rw [ha] at b0 hx0 hx1 hq0
    rw [hz] at b1 hx2 hx3 hq0 hq1 hq2
    rw [hfr] at b2 hq0
    obtain ⟨pr, hpr⟩ : ∃ pr, lastAt (valq pre) = pr := ⟨_, rfl⟩
    obtain ⟨F, hF⟩ : ∃ F, freeOf (valq pre) = F := ⟨_, rfl⟩
    have hFl : F.length ≤ 131073 := by have := freeOf_length (valq pre); rw [hF, valq_length] at this; omega
    rw [hpr, hF] at hI
    have u1 := cell_one hI.b1
    have u3 := cell_one hI.b3
    have u4 := cell_one hI.b4
    have fr4 := free_one hI.b4
    have CI := hid hI
    have X0 := hid ha
    have X1 := hid hz
    have X2 := hid hfr
    have XP := hid hpr
    have XF := hid hF
    have BB := hid hbb
    have Q0 := hid hq0
    have Q1 := hid hq1
    have RR := hid hrr
    have hf72 : Fence.wide.fn 72 := trivial
    have hf73 : Fence.wide.fn 73 := trivial
    have hmx : Tryz.prog.follows .mixedOrders = true := by kernel_rfl
    clear ha hz hfr hpr hF hI hbb hq0 hq1 hrr
    unfold bval
    simp only [X0.out, X1.out, X2.out]
    cases fr with
    | true =>
      have hlt2 := CI.out.lt
      obtain ⟨r4, hr4⟩ : ∃ r4, rd n g (a + 4) = r4 := ⟨_, rfl⟩
      have R4 := hid hr4
      have wa : IntKind.i64.wrap a = a := IntWalk.i64_in _ ⟨by omega, by omega⟩
      have wa4 : IntKind.i64.wrap (a + 4) = a + 4 := IntWalk.i64_in _ ⟨by omega, by omega⟩
      clear hr4
      have hor := or_flag z 1 (by omega) (by omega) Q1.out (.inr rfl)
      have QQ := hid (show rd n g a = z + 1 by have := Q0.out; simpa using this)
      obtain ⟨kc, hkc, hkc2⟩ := cls_range hq2 (by omega)
      have KC := hid hkc
      have cC := (((callsIn_wide (n := 3)).2 (classOf_any W.drew z (by omega) (by omega))).inRound l)
      rw [hkc] at cC
      obtain ⟨W1, hrun, hM1, hK1⟩ := (CI.out.mp.keep (Kp.drew W []) (by simp)).store (k := a) (v := (kc : Int)) (by omega) (by omega) (by omega) (by omega) (by unfold maxLen; omega)
      have CW := hid ((CI.out.keep (Kp.drew W []) (by simp)).remap hK1 hM1)
      have KA := hid (show Kp W W1 [rb, w.heap.size + 2] from ((Kp.drew W _).trans hK1).mono (by simp))
      have d0 := ((Kp.drew W _).trans hK1).cell b0 (by simp; omega)
      have d1 := ((Kp.drew W _).trans hK1).cell b1 (by simp; omega)
      have BX := hid (show W1.heap[p]? = some (.cells #[.int .i64 a, .int .i64 z, .bool true] 44 (0, 0)) by
        have := BB.out
        unfold bbox at this
        rw [X0.out, X1.out, X2.out] at this
        exact (((Kp.drew W _).trans hK1).block p (lt_of_block this) (by simp; omega)).trans this)
      have v1 := cell_one CW.out.b1
      have v4 := cell_one CW.out.b4
      obtain ⟨c1, x1, x2, hH1⟩ := CW.out.hp
      have H1 := hid hH1
      have hcc : c1 < 1152921504606000000 := by omega
      clear hM1 hK1 hH1 hkc
      gi_wp2_with fail
      refine Code.wpIn_mono (Q := fun e a' w' => e = .normal ∧ a' = { tmps := #[.pointer (some ⟨hb, 0, none⟩), .pointer (some ⟨w.heap.size, 0, none⟩), .pointer (some ⟨w.heap.size + 1, 0, none⟩), .pointer (some ⟨w.heap.size + 3, 0, none⟩), .pointer (some ⟨w.heap.size + 4, 0, none⟩), .pointer (some ⟨p, 0, none⟩), .int .i64 1, .pointer (some ⟨hb, 0, none⟩), .bool false, .map (some (w.heap.size + 2)), .pointer (some ⟨hb, 0, none⟩), .func (.func 91) #[] #[.pointer (some ⟨w.heap.size + 5, 0, none⟩)], .agg #[.int .i64 a, .int .i64 z, .bool true], .pointer (some ⟨p, 2, none⟩), .bool true, .map (some (w.heap.size + 2)), .pointer (some ⟨p, 0, none⟩), .int .i64 a, .pointer (some ⟨p, 1, none⟩), .int .i64 z, .int .i64 kc, undef, undef, undef, undef, undef, undef, undef, undef, undef, undef, undef, undef, undef, undef, undef, undef, undef, undef, undef, undef, undef, undef, undef, undef, undef, undef, undef, undef], defers := [] } ∧ w' = W1) ?_ ?_
      rotate_left
      · gi_region_with_o (gi_at_call 72; refine cC.mono ?_; rintro e w' ⟨rfl, hE⟩; rw [hE]; clear hE)
        all_goals exact ⟨rfl, rfl, rfl⟩
      rintro e a' V ⟨rfl, rfl, rfl⟩
      clear cC hrun
      gi_wp2_with fail
      refine Code.wpIn_mono (Q := fun e a' w' => e = .normal ∧ a' = { tmps := #[.pointer (some ⟨hb, 0, none⟩), .pointer (some ⟨w.heap.size, 0, none⟩), .pointer (some ⟨w.heap.size + 1, 0, none⟩), .pointer (some ⟨w.heap.size + 3, 0, none⟩), .pointer (some ⟨w.heap.size + 4, 0, none⟩), .pointer (some ⟨p, 0, none⟩), .int .i64 1, .pointer (some ⟨hb, 0, none⟩), .bool false, .map (some (w.heap.size + 2)), .pointer (some ⟨hb, 0, none⟩), .func (.func 91) #[] #[.pointer (some ⟨w.heap.size + 5, 0, none⟩)], .agg #[.int .i64 a, .int .i64 z, .bool true], .pointer (some ⟨p, 2, none⟩), .bool true, .map (some (w.heap.size + 2)), .pointer (some ⟨p, 0, none⟩), .int .i64 a, .pointer (some ⟨p, 1, none⟩), .int .i64 z, .int .i64 kc, .pointer (some ⟨hb, 0, none⟩), .pointer (some ⟨p, 0, none⟩), .int .i64 a, .int .i64 a, .int .i64 (z + 1), .pointer (some ⟨p, 1, none⟩), .int .i64 z, .int .i64 1, .int .i64 (z + 1), .bool false, .bool false, .pointer (some ⟨hb, 0, none⟩), .pointer (some ⟨p, 0, none⟩), .int .i64 a, .int .i64 (a + 4), .int .i64 r4, .int .i64 pr, .bool (r4 != pr), .bool (r4 != pr), undef, undef, undef, undef, undef, undef, undef, undef, undef], defers := [] } ∧ Cs w w' hb rb mb pb n g P c (pre.length + 1) pr (putP F a kc) ∧ w'.heap[p]? = some (.cells #[.int .i64 a, .int .i64 z, .bool true] 44 (0, 0)) ∧ Kp V w' [rb]) ?_ ?_
      rotate_left
      · refine region_round (S := (fun w' : World => w'.cell? ⟨w.heap.size, 0, none⟩ = some (.pointer (some ⟨hb, 0, none⟩)) ∧ w'.cell? ⟨p, 0, none⟩ = some (.int .i64 a) ∧ w'.cell? ⟨p, 1, none⟩ = some (.int .i64 z) ∧ w'.cell? ⟨w.heap.size + 4, 0, none⟩ = some (.int .i64 pr))) l _ hmx (noDefer_spec (by kernel_rfl)) (fun ⟨_, _, h⟩ => by cases h.1) ?_
        have hHeld : (fun w' : World => w'.cell? ⟨w.heap.size, 0, none⟩ = some (.pointer (some ⟨hb, 0, none⟩)) ∧ w'.cell? ⟨p, 0, none⟩ = some (.int .i64 a) ∧ w'.cell? ⟨p, 1, none⟩ = some (.int .i64 z) ∧ w'.cell? ⟨w.heap.size + 4, 0, none⟩ = some (.int .i64 pr)) V.drew := ⟨v1, d0, d1, v4⟩
        refine wpAnyH_take (i := 0) (v := .pointer (some ⟨hb, 0, none⟩)) rfl (by kernel_rfl) (by kernel_rfl) (by kernel_rfl) (fun _ _ _ h => by cases h.1) (Or.inl ⟨by rfl, by intro w hSw; go_simp⟩) hHeld ?_
        simp only [Act.put, List.setIfInBounds_toArray, List.set_cons_zero, List.set_cons_succ]
        refine wpAnyH_take (i := 1) (v := .pointer (some ⟨p, 0, none⟩)) rfl (by kernel_rfl) (by kernel_rfl) (by kernel_rfl) (fun _ _ _ h => by cases h.1) (Or.inl ⟨by rfl, by intro w hSw; go_simp⟩) hHeld ?_
        simp only [Act.put, List.setIfInBounds_toArray, List.set_cons_zero, List.set_cons_succ]
        refine wpAnyH_take (i := 2) (v := .int .i64 a) rfl (by kernel_rfl) (by kernel_rfl) (by kernel_rfl) (fun _ _ _ h => by cases h.1) (Or.inl ⟨by rfl, by intro w hSw; go_simp⟩) hHeld ?_
        simp only [Act.put, List.setIfInBounds_toArray, List.set_cons_zero, List.set_cons_succ]
        refine wpAnyH_take (i := 3) (v := .int .i64 a) rfl (by kernel_rfl) (by kernel_rfl) (by kernel_rfl) (fun _ _ _ h => by cases h.1) (Or.inl ⟨by rfl, by intro w hSw; go_simp⟩) hHeld ?_
        simp only [Act.put, List.setIfInBounds_toArray, List.set_cons_zero, List.set_cons_succ]
        refine wpAnyH_take (i := 5) (v := .pointer (some ⟨p, 1, none⟩)) rfl (by kernel_rfl) (by kernel_rfl) (by kernel_rfl) (fun _ _ _ h => by cases h.1) (Or.inl ⟨by rfl, by intro w hSw; go_simp⟩) hHeld ?_
        simp only [Act.put, List.setIfInBounds_toArray, List.set_cons_zero, List.set_cons_succ]
        refine wpAnyH_take (i := 6) (v := .int .i64 z) rfl (by kernel_rfl) (by kernel_rfl) (by kernel_rfl) (fun _ _ _ h => by cases h.1) (Or.inl ⟨by rfl, by intro w hSw; go_simp⟩) hHeld ?_
        simp only [Act.put, List.setIfInBounds_toArray, List.set_cons_zero, List.set_cons_succ]
        refine wpAnyH_take (i := 7) (v := .int .i64 1) rfl (by kernel_rfl) (by kernel_rfl) (by kernel_rfl) (fun _ _ _ h => by cases h.1) (Or.inl ⟨by rfl, by intro w hSw; go_simp⟩) hHeld ?_
        simp only [Act.put, List.setIfInBounds_toArray, List.set_cons_zero, List.set_cons_succ]
        refine wpAnyH_take (i := 8) (v := .int .i64 (z + 1)) rfl (by kernel_rfl) (by kernel_rfl) (by kernel_rfl) (fun _ _ _ h => by cases h.1) (Or.inl ⟨by rfl, by intro w hSw; go_simp⟩) hHeld ?_
        simp only [Act.put, List.setIfInBounds_toArray, List.set_cons_zero, List.set_cons_succ]
        refine wpAnyH_ready (rs := [4]) (by kernel_rfl) (by simp) ?_
        refine AllReadyH.cons rfl (fun K hK => ?_) AllReadyH.nil
        go_simp
        go_wp2_with fail
        refine (word_any _ hb rb mb pb n g c1 P a (H1.out.same (Kp.drew _ _)) (by omega) (by omega)).mono ?_
        rintro e w2 ⟨rfl, c2, hc2, hc2', hH2, hK2⟩
        rw [QQ.out]
        have KK2 := hid ((Kp.drew V _).trans hK2)
        have H2 := hid hH2
        have hS2 : (fun w' : World => w'.cell? ⟨w.heap.size, 0, none⟩ = some (.pointer (some ⟨hb, 0, none⟩)) ∧ w'.cell? ⟨p, 0, none⟩ = some (.int .i64 a) ∧ w'.cell? ⟨p, 1, none⟩ = some (.int .i64 z) ∧ w'.cell? ⟨w.heap.size + 4, 0, none⟩ = some (.int .i64 pr)) w2 := ⟨hK2.cell v1 (by simp; omega), hK2.cell d0 (by simp; omega), hK2.cell d1 (by simp; omega), hK2.cell v4 (by simp; omega)⟩
        clear hH2 hK2
        go_simp
        refine hK.out _ _ hS2 (fun hHeld => ?_)
        refine wpAnyH_take (i := 9) (v := .bool false) rfl (by kernel_rfl) (by kernel_rfl) (by kernel_rfl) (fun _ _ _ h => by cases h.1) (Or.inl ⟨by rfl, by intro w hSw; go_simp⟩) hHeld ?_
        simp only [Act.put, List.setIfInBounds_toArray, List.set_cons_zero, List.set_cons_succ]
        refine wpAnyH_take (i := 10) (v := .bool false) rfl (by kernel_rfl) (by kernel_rfl) (by kernel_rfl) (fun _ _ _ h => by cases h.1) (Or.inl ⟨by rfl, by intro w hSw; go_simp⟩) hHeld ?_
        simp only [Act.put, List.setIfInBounds_toArray, List.set_cons_zero, List.set_cons_succ]
        refine wpAnyH_take (i := 11) (v := .pointer (some ⟨hb, 0, none⟩)) rfl (by kernel_rfl) (by kernel_rfl) (by kernel_rfl) (fun _ _ _ h => by cases h.1) (Or.inl ⟨by rfl, by intro w hSw; go_simp⟩) hHeld ?_
        simp only [Act.put, List.setIfInBounds_toArray, List.set_cons_zero, List.set_cons_succ]
        refine wpAnyH_take (i := 12) (v := .pointer (some ⟨p, 0, none⟩)) rfl (by kernel_rfl) (by kernel_rfl) (by kernel_rfl) (fun _ _ _ h => by cases h.1) (Or.inl ⟨by rfl, by intro w hSw; go_simp⟩) hHeld ?_
        simp only [Act.put, List.setIfInBounds_toArray, List.set_cons_zero, List.set_cons_succ]
        refine wpAnyH_take (i := 13) (v := .int .i64 a) rfl (by kernel_rfl) (by kernel_rfl) (by kernel_rfl) (fun _ _ _ h => by cases h.1) (Or.inl ⟨by rfl, by intro w hSw; go_simp⟩) hHeld ?_
        simp only [Act.put, List.setIfInBounds_toArray, List.set_cons_zero, List.set_cons_succ]
        refine wpAnyH_take (i := 14) (v := .int .i64 (a + 4)) rfl (by kernel_rfl) (by kernel_rfl) (by kernel_rfl) (fun _ _ _ h => by cases h.1) (Or.inl ⟨by rfl, by intro w hSw; go_simp⟩) hHeld ?_
        simp only [Act.put, List.setIfInBounds_toArray, List.set_cons_zero, List.set_cons_succ]
        refine wpAnyH_take (i := 16) (v := .int .i64 pr) rfl (by kernel_rfl) (by kernel_rfl) (by kernel_rfl) (fun _ _ _ h => by cases h.1) (Or.inl ⟨by rfl, by intro w hSw; go_simp⟩) hHeld ?_
        simp only [Act.put, List.setIfInBounds_toArray, List.set_cons_zero, List.set_cons_succ]
        refine wpAnyH_ready (rs := [15]) (by kernel_rfl) (by simp) ?_
        refine AllReadyH.cons rfl (fun K hK => ?_) AllReadyH.nil
        go_simp
        go_wp2_with fail
        refine (word_any w2 hb rb mb pb n g c2 P (a + 4) H2.out (by omega) (by omega)).mono ?_
        rintro e w3 ⟨rfl, c3, hc3, hc3', hH3, hK3⟩
        rw [R4.out]
        have hS3 : (fun w' : World => w'.cell? ⟨w.heap.size, 0, none⟩ = some (.pointer (some ⟨hb, 0, none⟩)) ∧ w'.cell? ⟨p, 0, none⟩ = some (.int .i64 a) ∧ w'.cell? ⟨p, 1, none⟩ = some (.int .i64 z) ∧ w'.cell? ⟨w.heap.size + 4, 0, none⟩ = some (.int .i64 pr)) w3 := ⟨hK3.cell hHeld.1 (by simp; omega), hK3.cell hHeld.2.1 (by simp; omega), hK3.cell hHeld.2.2.1 (by simp; omega), hK3.cell hHeld.2.2.2 (by simp; omega)⟩
        have KK3 := hid (KK2.out.trans hK3)
        have H3 := hid hH3
        clear hH3 hK3
        go_simp
        refine hK.out _ _ hS3 (fun hHeld => ?_)
        refine wpAnyH_take (i := 17) (v := .bool (r4 != pr)) rfl (by kernel_rfl) (by kernel_rfl) (by kernel_rfl) (fun _ _ _ h => by cases h.1) (Or.inl ⟨by rfl, by intro w hSw; go_simp⟩) hHeld ?_
        simp only [Act.put, List.setIfInBounds_toArray, List.set_cons_zero, List.set_cons_succ]
        refine wpAnyH_take (i := 18) (v := .bool (r4 != pr)) rfl (by kernel_rfl) (by kernel_rfl) (by kernel_rfl) (fun _ _ _ h => by cases h.1) (Or.inl ⟨by rfl, by intro w hSw; go_simp⟩) hHeld ?_
        simp only [Act.put, List.setIfInBounds_toArray, List.set_cons_zero, List.set_cons_succ]
        refine wpAnyH_done (by kernel_rfl) ?_ _
        exact ⟨rfl, rfl, CW.out.word (k' := pre.length + 1) KK3.out H3.out x1 (by omega) (by omega), (KK3.out.block p (lt_of_block BX.out) (by simp; omega)).trans BX.out, KK3.out⟩
      · rintro e a' w' ⟨rfl, rfl, hC, hb', hKw⟩
        have t0 := cell_tri hb'
        obtain ⟨t0, -, -⟩ := t0
        have s2 := cell_one hC.b2
        have f2 := free_one hC.b2
        have s4 := cell_one hC.b4
        have f4 := free_one hC.b4
        have CC := hid hC
        have KW := hid (KA.out.trans (hKw.mono (r2 := [rb, w.heap.size + 2]) (by simp)))
        clear hC hb' hKw
        by_cases hne : r4 = pr
        · have hbn : (r4 != pr) = false := by simpa using hne
          have NE := hid hne
          clear hne
          gi_wp2
          refine ⟨(KW.out.toFrom (by simp; omega)).trans ((KeepsOthers.setCell _ _ _).from _), Kc.trans (Kc.of_kp KW.out (by simp; omega)) (Kc.of_kp (Kp.setCell _ ⟨w.heap.size + 4, 0, none⟩ _) (by simp; omega)), ?_, ?_⟩
          · have e1 : lastAt (valq (pre ++ [x])) = a := by rw [valq_snoc, lastAt_snoc, X0.out]
            have e2 : freeOf (valq (pre ++ [x])) = (putP F a kc) := by rw [valq_snoc, freeOf_snoc, X2.out, XF.out]; simp [X0.out, X1.out, KC.out]
            rw [e1, e2, List.length_append]
            exact CC.out.ahead a
          · have := KW.out.size
            simp
            omega
        · have hbn : (r4 != pr) = true := by simpa using hne
          have NE := hid hne
          clear hne
          gi_wp2
          exact ⟨(KW.out.toFrom (by simp; omega)).trans ((KeepsOthers.setCell _ _ _).from _), rfl, pre, x, rfl, by rw [X0.out, R4.out, XP.out]; exact NE.out⟩
    | false =>
      have hlt2 := CI.out.lt
      obtain ⟨r4, hr4⟩ : ∃ r4, rd n g (a + 4) = r4 := ⟨_, rfl⟩
      have R4 := hid hr4
      have wa : IntKind.i64.wrap a = a := IntWalk.i64_in _ ⟨by omega, by omega⟩
      have wa4 : IntKind.i64.wrap (a + 4) = a + 4 := IntWalk.i64_in _ ⟨by omega, by omega⟩
      clear hr4
      have hor := or_flag z 0 (by omega) (by omega) Q1.out (.inl rfl)
      rw [Int.add_zero] at hor
      have QQ := hid (show rd n g a = z by have := Q0.out; simpa using this)
      have CW := CI
      have KA := hid (Kp.refl W [rb, w.heap.size + 2])
      have BX := hid (show W.heap[p]? = some (.cells #[.int .i64 a, .int .i64 z, .bool false] 44 (0, 0)) by
        have := BB.out
        unfold bbox at this
        rw [X0.out, X1.out, X2.out] at this
        exact this)
      have v1 := u1
      have v4 := u4
      have d0 := b0
      have d1 := b1
      obtain ⟨c1, x1, x2, hH1⟩ := CI.out.hp
      have H1 := hid hH1
      have hcc : c1 < 1152921504606000000 := by omega
      clear hH1
      gi_wp2_with fail
      refine Code.wpIn_mono (Q := fun e a' w' => e = .normal ∧ a' = { tmps := #[.pointer (some ⟨hb, 0, none⟩), .pointer (some ⟨w.heap.size, 0, none⟩), .pointer (some ⟨w.heap.size + 1, 0, none⟩), .pointer (some ⟨w.heap.size + 3, 0, none⟩), .pointer (some ⟨w.heap.size + 4, 0, none⟩), .pointer (some ⟨p, 0, none⟩), .int .i64 0, .pointer (some ⟨hb, 0, none⟩), .bool false, .map (some (w.heap.size + 2)), .pointer (some ⟨hb, 0, none⟩), .func (.func 91) #[] #[.pointer (some ⟨w.heap.size + 5, 0, none⟩)], .agg #[.int .i64 a, .int .i64 z, .bool false], .pointer (some ⟨p, 2, none⟩), .bool false, undef, undef, undef, undef, undef, undef, .pointer (some ⟨hb, 0, none⟩), .pointer (some ⟨p, 0, none⟩), .int .i64 a, .int .i64 a, .int .i64 z, .pointer (some ⟨p, 1, none⟩), .int .i64 z, .int .i64 0, .int .i64 z, .bool false, .bool false, .pointer (some ⟨hb, 0, none⟩), .pointer (some ⟨p, 0, none⟩), .int .i64 a, .int .i64 (a + 4), .int .i64 r4, .int .i64 pr, .bool (r4 != pr), .bool (r4 != pr), undef, undef, undef, undef, undef, undef, undef, undef, undef], defers := [] } ∧ Cs w w' hb rb mb pb n g P c (pre.length + 1) pr F ∧ w'.heap[p]? = some (.cells #[.int .i64 a, .int .i64 z, .bool false] 44 (0, 0)) ∧ Kp W w' [rb]) ?_ ?_
      rotate_left
      · refine region_round (S := (fun w' : World => w'.cell? ⟨w.heap.size, 0, none⟩ = some (.pointer (some ⟨hb, 0, none⟩)) ∧ w'.cell? ⟨p, 0, none⟩ = some (.int .i64 a) ∧ w'.cell? ⟨p, 1, none⟩ = some (.int .i64 z) ∧ w'.cell? ⟨w.heap.size + 4, 0, none⟩ = some (.int .i64 pr))) l _ hmx (noDefer_spec (by kernel_rfl)) (fun ⟨_, _, h⟩ => by cases h.1) ?_
        have hHeld : (fun w' : World => w'.cell? ⟨w.heap.size, 0, none⟩ = some (.pointer (some ⟨hb, 0, none⟩)) ∧ w'.cell? ⟨p, 0, none⟩ = some (.int .i64 a) ∧ w'.cell? ⟨p, 1, none⟩ = some (.int .i64 z) ∧ w'.cell? ⟨w.heap.size + 4, 0, none⟩ = some (.int .i64 pr)) W.drew := ⟨v1, d0, d1, v4⟩
        refine wpAnyH_take (i := 0) (v := .pointer (some ⟨hb, 0, none⟩)) rfl (by kernel_rfl) (by kernel_rfl) (by kernel_rfl) (fun _ _ _ h => by cases h.1) (Or.inl ⟨by rfl, by intro w hSw; go_simp⟩) hHeld ?_
        simp only [Act.put, List.setIfInBounds_toArray, List.set_cons_zero, List.set_cons_succ]
        refine wpAnyH_take (i := 1) (v := .pointer (some ⟨p, 0, none⟩)) rfl (by kernel_rfl) (by kernel_rfl) (by kernel_rfl) (fun _ _ _ h => by cases h.1) (Or.inl ⟨by rfl, by intro w hSw; go_simp⟩) hHeld ?_
        simp only [Act.put, List.setIfInBounds_toArray, List.set_cons_zero, List.set_cons_succ]
        refine wpAnyH_take (i := 2) (v := .int .i64 a) rfl (by kernel_rfl) (by kernel_rfl) (by kernel_rfl) (fun _ _ _ h => by cases h.1) (Or.inl ⟨by rfl, by intro w hSw; go_simp⟩) hHeld ?_
        simp only [Act.put, List.setIfInBounds_toArray, List.set_cons_zero, List.set_cons_succ]
        refine wpAnyH_take (i := 3) (v := .int .i64 a) rfl (by kernel_rfl) (by kernel_rfl) (by kernel_rfl) (fun _ _ _ h => by cases h.1) (Or.inl ⟨by rfl, by intro w hSw; go_simp⟩) hHeld ?_
        simp only [Act.put, List.setIfInBounds_toArray, List.set_cons_zero, List.set_cons_succ]
        refine wpAnyH_take (i := 5) (v := .pointer (some ⟨p, 1, none⟩)) rfl (by kernel_rfl) (by kernel_rfl) (by kernel_rfl) (fun _ _ _ h => by cases h.1) (Or.inl ⟨by rfl, by intro w hSw; go_simp⟩) hHeld ?_
        simp only [Act.put, List.setIfInBounds_toArray, List.set_cons_zero, List.set_cons_succ]
        refine wpAnyH_take (i := 6) (v := .int .i64 z) rfl (by kernel_rfl) (by kernel_rfl) (by kernel_rfl) (fun _ _ _ h => by cases h.1) (Or.inl ⟨by rfl, by intro w hSw; go_simp⟩) hHeld ?_
        simp only [Act.put, List.setIfInBounds_toArray, List.set_cons_zero, List.set_cons_succ]
        refine wpAnyH_take (i := 7) (v := .int .i64 0) rfl (by kernel_rfl) (by kernel_rfl) (by kernel_rfl) (fun _ _ _ h => by cases h.1) (Or.inl ⟨by rfl, by intro w hSw; go_simp⟩) hHeld ?_
        simp only [Act.put, List.setIfInBounds_toArray, List.set_cons_zero, List.set_cons_succ]
        refine wpAnyH_take (i := 8) (v := .int .i64 z) rfl (by kernel_rfl) (by kernel_rfl) (by kernel_rfl) (fun _ _ _ h => by cases h.1) (Or.inl ⟨by rfl, by intro w hSw; go_simp⟩) hHeld ?_
        simp only [Act.put, List.setIfInBounds_toArray, List.set_cons_zero, List.set_cons_succ]
        refine wpAnyH_ready (rs := [4]) (by kernel_rfl) (by simp) ?_
        refine AllReadyH.cons rfl (fun K hK => ?_) AllReadyH.nil
        go_simp
        go_wp2_with fail
        refine (word_any _ hb rb mb pb n g c1 P a (H1.out.same (Kp.drew _ _)) (by omega) (by omega)).mono ?_
        rintro e w2 ⟨rfl, c2, hc2, hc2', hH2, hK2⟩
        rw [QQ.out]
        have KK2 := hid ((Kp.drew W _).trans hK2)
        have H2 := hid hH2
        have hS2 : (fun w' : World => w'.cell? ⟨w.heap.size, 0, none⟩ = some (.pointer (some ⟨hb, 0, none⟩)) ∧ w'.cell? ⟨p, 0, none⟩ = some (.int .i64 a) ∧ w'.cell? ⟨p, 1, none⟩ = some (.int .i64 z) ∧ w'.cell? ⟨w.heap.size + 4, 0, none⟩ = some (.int .i64 pr)) w2 := ⟨hK2.cell v1 (by simp; omega), hK2.cell d0 (by simp; omega), hK2.cell d1 (by simp; omega), hK2.cell v4 (by simp; omega)⟩
        clear hH2 hK2
        go_simp
        refine hK.out _ _ hS2 (fun hHeld => ?_)
        refine wpAnyH_take (i := 9) (v := .bool false) rfl (by kernel_rfl) (by kernel_rfl) (by kernel_rfl) (fun _ _ _ h => by cases h.1) (Or.inl ⟨by rfl, by intro w hSw; go_simp⟩) hHeld ?_
        simp only [Act.put, List.setIfInBounds_toArray, List.set_cons_zero, List.set_cons_succ]
        refine wpAnyH_take (i := 10) (v := .bool false) rfl (by kernel_rfl) (by kernel_rfl) (by kernel_rfl) (fun _ _ _ h => by cases h.1) (Or.inl ⟨by rfl, by intro w hSw; go_simp⟩) hHeld ?_
        simp only [Act.put, List.setIfInBounds_toArray, List.set_cons_zero, List.set_cons_succ]
        refine wpAnyH_take (i := 11) (v := .pointer (some ⟨hb, 0, none⟩)) rfl (by kernel_rfl) (by kernel_rfl) (by kernel_rfl) (fun _ _ _ h => by cases h.1) (Or.inl ⟨by rfl, by intro w hSw; go_simp⟩) hHeld ?_
        simp only [Act.put, List.setIfInBounds_toArray, List.set_cons_zero, List.set_cons_succ]
        refine wpAnyH_take (i := 12) (v := .pointer (some ⟨p, 0, none⟩)) rfl (by kernel_rfl) (by kernel_rfl) (by kernel_rfl) (fun _ _ _ h => by cases h.1) (Or.inl ⟨by rfl, by intro w hSw; go_simp⟩) hHeld ?_
        simp only [Act.put, List.setIfInBounds_toArray, List.set_cons_zero, List.set_cons_succ]
        refine wpAnyH_take (i := 13) (v := .int .i64 a) rfl (by kernel_rfl) (by kernel_rfl) (by kernel_rfl) (fun _ _ _ h => by cases h.1) (Or.inl ⟨by rfl, by intro w hSw; go_simp⟩) hHeld ?_
        simp only [Act.put, List.setIfInBounds_toArray, List.set_cons_zero, List.set_cons_succ]
        refine wpAnyH_take (i := 14) (v := .int .i64 (a + 4)) rfl (by kernel_rfl) (by kernel_rfl) (by kernel_rfl) (fun _ _ _ h => by cases h.1) (Or.inl ⟨by rfl, by intro w hSw; go_simp⟩) hHeld ?_
        simp only [Act.put, List.setIfInBounds_toArray, List.set_cons_zero, List.set_cons_succ]
        refine wpAnyH_take (i := 16) (v := .int .i64 pr) rfl (by kernel_rfl) (by kernel_rfl) (by kernel_rfl) (fun _ _ _ h => by cases h.1) (Or.inl ⟨by rfl, by intro w hSw; go_simp⟩) hHeld ?_
        simp only [Act.put, List.setIfInBounds_toArray, List.set_cons_zero, List.set_cons_succ]
        refine wpAnyH_ready (rs := [15]) (by kernel_rfl) (by simp) ?_
        refine AllReadyH.cons rfl (fun K hK => ?_) AllReadyH.nil
        go_simp
        go_wp2_with fail
        refine (word_any w2 hb rb mb pb n g c2 P (a + 4) H2.out (by omega) (by omega)).mono ?_
        rintro e w3 ⟨rfl, c3, hc3, hc3', hH3, hK3⟩
        rw [R4.out]
        have hS3 : (fun w' : World => w'.cell? ⟨w.heap.size, 0, none⟩ = some (.pointer (some ⟨hb, 0, none⟩)) ∧ w'.cell? ⟨p, 0, none⟩ = some (.int .i64 a) ∧ w'.cell? ⟨p, 1, none⟩ = some (.int .i64 z) ∧ w'.cell? ⟨w.heap.size + 4, 0, none⟩ = some (.int .i64 pr)) w3 := ⟨hK3.cell hHeld.1 (by simp; omega), hK3.cell hHeld.2.1 (by simp; omega), hK3.cell hHeld.2.2.1 (by simp; omega), hK3.cell hHeld.2.2.2 (by simp; omega)⟩
        have KK3 := hid (KK2.out.trans hK3)
        have H3 := hid hH3
        clear hH3 hK3
        go_simp
        refine hK.out _ _ hS3 (fun hHeld => ?_)
        refine wpAnyH_take (i := 17) (v := .bool (r4 != pr)) rfl (by kernel_rfl) (by kernel_rfl) (by kernel_rfl) (fun _ _ _ h => by cases h.1) (Or.inl ⟨by rfl, by intro w hSw; go_simp⟩) hHeld ?_
        simp only [Act.put, List.setIfInBounds_toArray, List.set_cons_zero, List.set_cons_succ]
        refine wpAnyH_take (i := 18) (v := .bool (r4 != pr)) rfl (by kernel_rfl) (by kernel_rfl) (by kernel_rfl) (fun _ _ _ h => by cases h.1) (Or.inl ⟨by rfl, by intro w hSw; go_simp⟩) hHeld ?_
        simp only [Act.put, List.setIfInBounds_toArray, List.set_cons_zero, List.set_cons_succ]
        refine wpAnyH_done (by kernel_rfl) ?_ _
        exact ⟨rfl, rfl, CW.out.word (k' := pre.length + 1) KK3.out H3.out x1 (by omega) (by omega), (KK3.out.block p (lt_of_block BX.out) (by simp; omega)).trans BX.out, KK3.out⟩
      · rintro e a' w' ⟨rfl, rfl, hC, hb', hKw⟩
        have t0 := cell_tri hb'
        obtain ⟨t0, -, -⟩ := t0
        have s2 := cell_one hC.b2
        have f2 := free_one hC.b2
        have s4 := cell_one hC.b4
        have f4 := free_one hC.b4
        have CC := hid hC
        have KW := hid (KA.out.trans (hKw.mono (r2 := [rb, w.heap.size + 2]) (by simp)))
        clear hC hb' hKw
        by_cases hne : r4 = pr
        · have hbn : (r4 != pr) = false := by simpa using hne
          have NE := hid hne
          clear hne
          gi_wp2
          refine ⟨(KW.out.toFrom (by simp; omega)).trans ((KeepsOthers.setCell _ _ _).from _), Kc.trans (Kc.of_kp KW.out (by simp; omega)) (Kc.of_kp (Kp.setCell _ ⟨w.heap.size + 4, 0, none⟩ _) (by simp; omega)), ?_, ?_⟩
          · have e1 : lastAt (valq (pre ++ [x])) = a := by rw [valq_snoc, lastAt_snoc, X0.out]
            have e2 : freeOf (valq (pre ++ [x])) = F := by rw [valq_snoc, freeOf_snoc, X2.out, XF.out]; simp
            rw [e1, e2, List.length_append]
            exact CC.out.ahead a
          · have := KW.out.size
            simp
            omega
        · have hbn : (r4 != pr) = true := by simpa using hne
          have NE := hid hne
          clear hne
          gi_wp2
          exact ⟨(KW.out.toFrom (by simp; omega)).trans ((KeepsOthers.setCell _ _ _).from _), rfl, pre, x, rfl, by rw [X0.out, R4.out, XP.out]; exact NE.out⟩
  case done =>
    rintro D ys W hD rfl ⟨hI, hsW⟩ hDD
    obtain ⟨c1, x1, x2, hH1⟩ := hI.hp
    have hf74 : Fence.wide.fn 74 := trivial
    have hf75 : Fence.wide.fn 75 := trivial
    have hlt2 := hI.lt
    have u1 := cell_one hI.b1
    have u3 := cell_one hI.b3
    have cL := (callsIn_wide (n := 5)).2 (lists_ok W hb rb mb pb (w.heap.size + 2) n K S' g c1 P _ hH1 hI.mp hI.off hK (by omega) HA.out HS.out)
    have CI := hid hI
    have DD := hid hDD
    clear hI hDD hH1
    gi_wp2_with (gi_at_call 74; refine cL.mono ?_; rintro e w2 ⟨rfl, hC2⟩; obtain ⟨c2, y1, y2, hH2, hM2, hK2⟩ := hC2; have v1 := hK2.cell u1 (by simp; omega); have H2 := hid hH2; have K2 := hid hK2; clear hH2 hM2 hK2)
    have cR := (callsIn_wide (n := 5)).2 (rest_ok w2 hb rb mb pb n g c2 P H2.out (by omega) R0.out R1.out R2.out)
    gi_wp2_with (gi_at_call 75; refine cR.mono ?_; rintro e w3 ⟨rfl, hC3⟩; obtain ⟨c3, y3, y4, hH3, hK3⟩ := hC3; have KK := hid (K2.out.trans (hK3.mono (r2 := [rb, w.heap.size + 2]) (by simp))); have b2' := (KK.out.block _ (lt_of_block CI.out.b2) (by simp; omega)).trans CI.out.b2; have s2 := cell_one b2'; have f2 := free_one b2'; have B2 := hid b2'; have H3 := hid hH3; clear hH3 hK3 b2')
    have DD3 := hid ((KK.out.block D (lt_of_block DD.out) (by simp; omega)).trans DD.out)
    have KS := hid (Kp.setCell w3 ⟨w.heap.size + 1, 0, none⟩ (.bool true))
    have DD4 := hid ((KS.out.block D (lt_of_block DD3.out) (by simp; omega)).trans DD3.out)
    refine ⟨by simp, .inl ⟨_, _, rfl, run_takeDeferred DD4.out, ?_⟩⟩
    have hcell := cell_one ((World.putObj_heap_other (w := w3.setCell ⟨w.heap.size + 1, 0, none⟩ (.bool true)) (o := .deferred none) (show w.heap.size + 1 ≠ D by omega)).trans (set_one (u := .bool true) B2.out))
    have KF : Kp w3 ((w3.setCell ⟨w.heap.size + 1, 0, none⟩ (.bool true)).putObj D (.deferred none)) [w.heap.size + 1, D] :=
      ⟨rfl, rfl, rfl, by have := KS.out.size; simp [World.putObj] at this ⊢, fun k hk' hn => (World.putObj_heap_other (by simp at hn; omega)).trans (KS.out.block k hk' (by simp at hn ⊢; omega))⟩
    refine ⟨.bool true, by simp [results, Tryz.results31, go_sem, hcell], rfl, ?_⟩
    exact ⟨c3, by omega, by omega, H3.out.keep KF (by simp; omega) (by simp; omega) (by simp; omega) (by simp; omega) (by simp; omega), (CI.out.kp.past KK.out (by intro k hk hl; simp at hk ⊢; omega)).past KF (by intro k hk hl; simp at hk; omega)⟩
  case stop =>
    rintro D cc pre W _ hpre ⟨rfl, p, x, rfl, hne⟩ _
    exact absurd (HAH.out p x hpre) hne
end Go.Proofs.YtgefmnnkpffpcaaGreatDoor
