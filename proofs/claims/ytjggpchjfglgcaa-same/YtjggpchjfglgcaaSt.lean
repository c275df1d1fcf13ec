/- stands: does it tell what the document's does? -/
import Derived.Deep.RegionHeldLaw
import Derived.Shelf.RegionOpen
import Derived.Test.YtjggpchjfglgcaaDo
import Derived.Test.YtjggpchjfglgcaaAl
import Derived.Test.YtjggpchjfglgcaaMarks
import Derived.Test.YtjggpchjfglgcaaRound
namespace Go.Proofs.Ytjggpchjfglgcaa
open Go.RowKit Go.Shelf Go.Lib
attribute [local go_sem] Oper.semAt_some

/-- The law's boxes, both. -/
structure Bq (w W : World) (cb rb ax : Nat) (M : Cn) (V : Value) (leave : Int) : Prop where
  bP : W.heap[ax]? = some (.cells #[.pointer (some ⟨rb, 0, none⟩)] 25 (0, 0))
  bL : W.heap[ax + 1]? = some (.cells #[.int .i64 leave] 3 (0, 0))
  bR : W.heap[ax + 2]? = some (.cells #[.bool false] 4 (0, 0))
  c : Cc W cb M
  r : Ri W rb V M
  kp : Kp w W []
theorem Bq.keep {w W W' : World} {cb rb ax : Nat} {M : Cn} {V : Value} {leave : Int} (h : Bq w W cb rb ax M V leave) (hk : Kp W W' []) : Bq w W' cb rb ax M V leave :=
  ⟨(hk.block _ (lt_of_block h.bP) (by simp)).trans h.bP, (hk.block _ (lt_of_block h.bL) (by simp)).trans h.bL, (hk.block _ (lt_of_block h.bR) (by simp)).trans h.bR, h.c.same hk, h.r.same hk, h.kp.trans hk⟩
theorem neq_bool (B : Bool) (W : World) : (binOp .neq 4 (.bool B) (.bool B)).run Try.prog W = .ok (.bool false) W := by cases B <;> kernel_rfl
theorem eq_not (B : Bool) (W : World) : (binOp .eql 4 (.bool B) (.bool (!B))).run Try.prog W = .ok (.bool false) W := by cases B <;> kernel_rfl
theorem below_drew {n : Nat} {A B : World} (h : Below n A B) : Below n A B.drew := ⟨h.os, h.tape, h.output, h.size, h.block⟩
theorem fn_not_nil2 (a : Nat) (W : World) : (binOp .eql 66 (itc a) .nilFunc).run Try.prog W = .ok (.bool false) W := by kernel_rfl
theorem act_eq {P : Program} {c : Code} {Q : Exit → Act → World → Prop} {a a' : Act} {w : World} (h : a = a') (hh : c.wp P Q a' w) : c.wp P Q a w := h ▸ hh
theorem racts_kp {w : World} {rb : Nat} {M : Cn} (h : Rq w rb M) (p : Bool) : Calls Try.prog 32 #[.pointer (some ⟨rb, 0, none⟩), .bool p] w fun e w' => e = .returned (.bool (actsV M p)) ∧ Kp w w' [] := by
  refine (racts_any h p).mono ?_
  rintro e w' ⟨rfl, rfl⟩
  exact ⟨rfl, Kp.refl _ _⟩
set_option maxRecDepth 100000 in
set_option maxHeartbeats 8000000 in
theorem stands_any (w : World) (cb rb : Nat) (M : Cn) (leave : Int) (h : Pa w cb rb M) : Calls Try.prog 10 #[.pointer (some ⟨cb, 0, none⟩), .pointer (some ⟨rb, 0, none⟩), .int .i64 leave] w fun e w' => e = .returned (.bool true) ∧ Kp w w' [] := by
  obtain ⟨hc, ⟨V, hr⟩, hl⟩ := h
  have hb0 : Bq w (((w.alloc (.cells #[.pointer (some ⟨rb, 0, none⟩)] 25)).alloc (.cells #[.int .i64 leave] 3)).alloc (.cells #[.bool false] 4)) cb rb w.heap.size M V leave := by
    have k1 := Kp.alloc w (.cells #[.pointer (some ⟨rb, 0, none⟩)] 25) []
    have k2 := Kp.alloc (w.alloc (.cells #[.pointer (some ⟨rb, 0, none⟩)] 25)) (.cells #[.int .i64 leave] 3) []
    have k3 := Kp.alloc ((w.alloc (.cells #[.pointer (some ⟨rb, 0, none⟩)] 25)).alloc (.cells #[.int .i64 leave] 3)) (.cells #[.bool false] 4) []
    have e1 := heap_alloc_new w (.cells #[.pointer (some ⟨rb, 0, none⟩)] 25)
    have e2 : ((w.alloc (.cells #[.pointer (some ⟨rb, 0, none⟩)] 25)).alloc (.cells #[.int .i64 leave] 3)).heap[w.heap.size + 1]? = some (.cells #[.int .i64 leave] 3 (0, 0)) := by
      have := heap_alloc_new (w.alloc (.cells #[.pointer (some ⟨rb, 0, none⟩)] 25)) (.cells #[.int .i64 leave] 3)
      simpa using this
    have e3 : (((w.alloc (.cells #[.pointer (some ⟨rb, 0, none⟩)] 25)).alloc (.cells #[.int .i64 leave] 3)).alloc (.cells #[.bool false] 4)).heap[w.heap.size + 2]? = some (.cells #[.bool false] 4 (0, 0)) := by
      have := heap_alloc_new ((w.alloc (.cells #[.pointer (some ⟨rb, 0, none⟩)] 25)).alloc (.cells #[.int .i64 leave] 3)) (.cells #[.bool false] 4)
      simpa using this
    refine ⟨(k3.block _ (by simp; omega) (by simp)).trans ((k2.block _ (lt_of_block e1) (by simp)).trans e1), (k3.block _ (lt_of_block e2) (by simp)).trans e2, e3, hc.same ((k1.trans k2).trans k3), hr.same ((k1.trans k2).trans k3), (k1.trans k2).trans k3⟩
  obtain ⟨ao, cp, hV⟩ := hr.ms.slice
  obtain ⟨X, hX⟩ : ∃ X, M.L = X := ⟨_, rfl⟩
  obtain ⟨N, hN⟩ : ∃ N, X.length = N := ⟨_, rfl⟩
  have hZ : ∀ (i : Nat) (d : Int × Int), X.reverse[i]? = some d → X[N - 1 - i]? = some d := fun i d hd => by
    have hi := (List.getElem?_eq_some_iff.1 hd).1
    rw [List.length_reverse] at hi
    rw [List.getElem?_reverse hi, hN] at hd
    exact hd
  have hZL : X.reverse.length = N := by rw [List.length_reverse, hN]
  obtain ⟨Z, hZZ⟩ : ∃ Z, X.reverse = Z := ⟨_, rfl⟩
  rw [hZZ] at hZ hZL
  have HZ := hid hZ
  have HX := hid (show M.L.reverse = Z from by rw [hX, hZZ])
  have HN := hid hZL
  rw [hX, hN] at hV
  have HL8 := hid hl
  have hlen : N ≤ 8 := by rw [← hN, ← hX]; exact hl
  have HLN := hid (show M.L.length = N by rw [hX, hN])
  have HXL := hid hX
  subst hV
  have HB0 := hid hb0
  clear hc hr hl hb0 hZ hZL hX hN hZZ
  refine (callsIn_wide (n := 6)).1 ?_
  refine callsIn_of_wp_marks Try.func10 rfl trivial ?_ rfl
  simp only [Try.ntmps10, List.size_toArray, List.length_cons, List.length_nil, Nat.reduceAdd, Nat.reduceSub, Array.replicate_succ, Array.replicate_zero, List.push_toArray, List.append_toArray, List.nil_append, List.cons_append]
  refine wpIn_wide.2 ?_
  go_wp2_with fail
  obtain ⟨W2, hW2⟩ : ∃ W2, ((w.alloc (.cells #[.pointer (some ⟨rb, 0, none⟩)] 25)).alloc (.cells #[.int .i64 leave] 3)).alloc (.cells #[.bool false] 4) = W2 := ⟨_, rfl⟩
  have hb0 := HB0.out
  rw [hW2] at hb0
  try rw [hW2]
  have hks0 : W2.heap.size = w.heap.size + 3 := by rw [← hW2]; simp
  clear hW2 HB0
  obtain ⟨ax, hax⟩ : ∃ ax, w.heap.size = ax := ⟨_, rfl⟩
  have HAX := hid hax
  rw [hax] at hb0 hks0
  try simp only [hax]
  have BX := hid hb0
  clear hb0 hks0 hax
  obtain ⟨A, hA⟩ : ∃ A, M.a = A := ⟨_, rfl⟩
  obtain ⟨E, hE⟩ : ∃ E, M.e = E := ⟨_, rfl⟩
  obtain ⟨O, hO⟩ : ∃ O, M.o = O := ⟨_, rfl⟩
  obtain ⟨U, hU⟩ : ∃ U, M.u = U := ⟨_, rfl⟩
  obtain ⟨P1, hP1⟩ : ∃ P, actsV M true = P := ⟨_, rfl⟩
  obtain ⟨P2, hP2⟩ : ∃ P, actsV M false = P := ⟨_, rfl⟩
  have q1 := neq_bool A
  have q2 := eq_not E
  have q3 := neq_bool O
  have q4 := neq_bool U
  have q5 := neq_bool P1
  have q6 := neq_bool P2
  have C1 := hid (fun (z : World) (hk : Kp W2 z []) => asked_any (BX.out.keep hk).c.cv)
  have C2 := hid (fun (z : World) (hk : Kp W2 z []) => enabled_any (BX.out.keep hk).c.cv)
  have C3 := hid (fun (z : World) (hk : Kp W2 z []) => atonce_any (BX.out.keep hk).c.cv)
  have C4 := hid (fun (z : World) (hk : Kp W2 z []) => unwinds_any (BX.out.keep hk).c.cv)
  have C5 := hid (fun (z : World) (hk : Kp W2 z []) => acts_any (BX.out.keep hk).c.cv true)
  have C6 := hid (fun (z : World) (hk : Kp W2 z []) => acts_any (BX.out.keep hk).c.cv false)
  have C7 := hid (fun (z : World) (hk : Kp W2 z []) => len_any (BX.out.keep hk).c.cv)
  have R5 := hid (fun (z : World) (hk : Kp W2 z []) => racts_kp ⟨_, (BX.out.keep hk).r⟩ true)
  have R6 := hid (fun (z : World) (hk : Kp W2 z []) => racts_kp ⟨_, (BX.out.keep hk).r⟩ false)
  have HST := hid (fun (z : World) (hk : Kp W2 z []) => And.intro (cell_one (BX.out.keep hk).bP) (And.intro (BX.out.keep hk).r.c0 (And.intro (BX.out.keep hk).r.c1 (And.intro (BX.out.keep hk).r.c2 (And.intro (BX.out.keep hk).r.c3 (BX.out.keep hk).r.c4)))))
  have hLN := HLN.out
  rw [hA] at C1 HST
  rw [hE] at C2 HST
  rw [hO] at C3 HST
  rw [hU] at C4 HST
  rw [hP1] at C5 R5
  rw [hP2] at C6 R6
  rw [hLN] at C7
  obtain ⟨NE, hNE⟩ : ∃ NE, (!E) = NE := ⟨_, rfl⟩
  rw [hNE] at HST q2
  clear hA hE hO hU hP1 hP2 hLN hNE
  have b1 : ((N : Int) != (N : Int)) = false := by simp
  have K0 := hid (Kp.drew W2 [])
  rename_i QQ KK hKK
  refine wp_only ?_
  refine wp_region_held_drew (S := fun W : World => W.cell? ⟨ax, 0, none⟩ = some (.pointer (some ⟨rb, 0, none⟩)) ∧ W.cell? ⟨rb, 0, none⟩ = some (.bool A) ∧ W.cell? ⟨rb, 1, none⟩ = some (.bool NE) ∧ W.cell? ⟨rb, 2, none⟩ = some (.bool O) ∧ W.cell? ⟨rb, 3, none⟩ = some (.bool U) ∧ W.cell? ⟨rb, 4, none⟩ = some (.slice ao N cp)) (by kernel_rfl) (HST.out _ K0.out) (fun hHeld => ?_)
  refine wpAnyH_take (i := 0) (v := .pointer (some ⟨cb, 0, none⟩)) rfl (by kernel_rfl) (by kernel_rfl) (by kernel_rfl) (fun _ _ _ h => h) (Or.inl ⟨by kernel_rfl, fun w _ => by kernel_rfl⟩) hHeld ?_
  refine wpAnyH_take (i := 2) (v := .pointer (some ⟨rb, 0, none⟩)) rfl (by kernel_rfl) (by kernel_rfl) (by kernel_rfl) (fun _ _ _ h => h) (Or.inl ⟨by kernel_rfl, by intro w hSw; obtain ⟨s0, s1, s2, s3, s4, s5⟩ := hSw; go_simp⟩) hHeld ?_
  refine wpAnyH_take (i := 3) (v := .pointer (some ⟨rb, 0, none⟩)) rfl (by kernel_rfl) (by kernel_rfl) (by kernel_rfl) (fun _ _ _ h => h) (Or.inl ⟨by kernel_rfl, fun w _ => by kernel_rfl⟩) hHeld ?_
  refine wpAnyH_take (i := 4) (v := .pointer (some ⟨rb, 0, none⟩)) rfl (by kernel_rfl) (by kernel_rfl) (by kernel_rfl) (fun _ _ _ h => h) (Or.inl ⟨by kernel_rfl, fun w _ => by kernel_rfl⟩) hHeld ?_
  refine wpAnyH_take (i := 5) (v := .bool A) rfl (by kernel_rfl) (by kernel_rfl) (by kernel_rfl) (fun _ _ _ h => h) (Or.inl ⟨by kernel_rfl, by intro w hSw; obtain ⟨s0, s1, s2, s3, s4, s5⟩ := hSw; go_simp⟩) hHeld ?_
  refine wpAnyH_ready (rs := [1]) (by kernel_rfl) (by simp) ?_
  refine AllReadyH.cons rfl (fun K hK => ?_) AllReadyH.nil
  go_simp
  refine (C1.out _ K0.out).mono ?_
  rintro e z1 ⟨rfl, hk⟩
  have K1 := hid (K0.out.trans hk)
  clear hk
  go_simp
  refine hK.out _ _ (HST.out _ K1.out) (fun hHeld => ?_)
  refine wpAnyH_take (i := 6) (v := .bool false) rfl (by kernel_rfl) (by kernel_rfl) (by kernel_rfl) (fun _ _ _ h => h) (Or.inl ⟨by kernel_rfl, fun w _ => by have := q1; go_simp⟩) hHeld ?_
  refine wpAnyH_take (i := 7) (v := .bool false) rfl (by kernel_rfl) (by kernel_rfl) (by kernel_rfl) (fun _ _ _ h => h) (Or.inl ⟨by kernel_rfl, fun w _ => by kernel_rfl⟩) hHeld ?_
  refine wpAnyH_take (i := 8) (v := .pointer (some ⟨cb, 0, none⟩)) rfl (by kernel_rfl) (by kernel_rfl) (by kernel_rfl) (fun _ _ _ h => h) (Or.inl ⟨by kernel_rfl, fun w _ => by kernel_rfl⟩) hHeld ?_
  refine wpAnyH_take (i := 10) (v := .pointer (some ⟨rb, 0, none⟩)) rfl (by kernel_rfl) (by kernel_rfl) (by kernel_rfl) (fun _ _ _ h => h) (Or.inl ⟨by kernel_rfl, by intro w hSw; obtain ⟨s0, s1, s2, s3, s4, s5⟩ := hSw; go_simp⟩) hHeld ?_
  refine wpAnyH_take (i := 11) (v := .pointer (some ⟨rb, 0, none⟩)) rfl (by kernel_rfl) (by kernel_rfl) (by kernel_rfl) (fun _ _ _ h => h) (Or.inl ⟨by kernel_rfl, fun w _ => by kernel_rfl⟩) hHeld ?_
  refine wpAnyH_take (i := 12) (v := .pointer (some ⟨rb, 1, none⟩)) rfl (by kernel_rfl) (by kernel_rfl) (by kernel_rfl) (fun _ _ _ h => h) (Or.inl ⟨by kernel_rfl, fun w _ => by kernel_rfl⟩) hHeld ?_
  refine wpAnyH_take (i := 13) (v := .bool NE) rfl (by kernel_rfl) (by kernel_rfl) (by kernel_rfl) (fun _ _ _ h => h) (Or.inl ⟨by kernel_rfl, by intro w hSw; obtain ⟨s0, s1, s2, s3, s4, s5⟩ := hSw; go_simp⟩) hHeld ?_
  refine wpAnyH_ready (rs := [9]) (by kernel_rfl) (by simp) ?_
  refine AllReadyH.cons rfl (fun K hK => ?_) AllReadyH.nil
  go_simp
  refine (C2.out _ K1.out).mono ?_
  rintro e z2 ⟨rfl, hk⟩
  have K2 := hid (K1.out.trans hk)
  clear hk
  go_simp
  refine hK.out _ _ (HST.out _ K2.out) (fun hHeld => ?_)
  refine wpAnyH_take (i := 14) (v := .bool false) rfl (by kernel_rfl) (by kernel_rfl) (by kernel_rfl) (fun _ _ _ h => h) (Or.inl ⟨by kernel_rfl, fun w _ => by have := q2; go_simp⟩) hHeld ?_
  refine wpAnyH_take (i := 15) (v := .bool false) rfl (by kernel_rfl) (by kernel_rfl) (by kernel_rfl) (fun _ _ _ h => h) (Or.inl ⟨by kernel_rfl, fun w _ => by kernel_rfl⟩) hHeld ?_
  refine wpAnyH_take (i := 16) (v := .bool false) rfl (by kernel_rfl) (by kernel_rfl) (by kernel_rfl) (fun _ _ _ h => h) (Or.inl ⟨by kernel_rfl, fun w _ => by kernel_rfl⟩) hHeld ?_
  refine wpAnyH_take (i := 17) (v := .pointer (some ⟨cb, 0, none⟩)) rfl (by kernel_rfl) (by kernel_rfl) (by kernel_rfl) (fun _ _ _ h => h) (Or.inl ⟨by kernel_rfl, fun w _ => by kernel_rfl⟩) hHeld ?_
  refine wpAnyH_take (i := 19) (v := .pointer (some ⟨rb, 0, none⟩)) rfl (by kernel_rfl) (by kernel_rfl) (by kernel_rfl) (fun _ _ _ h => h) (Or.inl ⟨by kernel_rfl, by intro w hSw; obtain ⟨s0, s1, s2, s3, s4, s5⟩ := hSw; go_simp⟩) hHeld ?_
  refine wpAnyH_take (i := 20) (v := .pointer (some ⟨rb, 0, none⟩)) rfl (by kernel_rfl) (by kernel_rfl) (by kernel_rfl) (fun _ _ _ h => h) (Or.inl ⟨by kernel_rfl, fun w _ => by kernel_rfl⟩) hHeld ?_
  refine wpAnyH_take (i := 21) (v := .pointer (some ⟨rb, 2, none⟩)) rfl (by kernel_rfl) (by kernel_rfl) (by kernel_rfl) (fun _ _ _ h => h) (Or.inl ⟨by kernel_rfl, fun w _ => by kernel_rfl⟩) hHeld ?_
  refine wpAnyH_take (i := 22) (v := .bool O) rfl (by kernel_rfl) (by kernel_rfl) (by kernel_rfl) (fun _ _ _ h => h) (Or.inl ⟨by kernel_rfl, by intro w hSw; obtain ⟨s0, s1, s2, s3, s4, s5⟩ := hSw; go_simp⟩) hHeld ?_
  refine wpAnyH_ready (rs := [18]) (by kernel_rfl) (by simp) ?_
  refine AllReadyH.cons rfl (fun K hK => ?_) AllReadyH.nil
  go_simp
  refine (C3.out _ K2.out).mono ?_
  rintro e z3 ⟨rfl, hk⟩
  have K3 := hid (K2.out.trans hk)
  clear hk
  go_simp
  refine hK.out _ _ (HST.out _ K3.out) (fun hHeld => ?_)
  refine wpAnyH_take (i := 23) (v := .bool false) rfl (by kernel_rfl) (by kernel_rfl) (by kernel_rfl) (fun _ _ _ h => h) (Or.inl ⟨by kernel_rfl, fun w _ => by have := q3; go_simp⟩) hHeld ?_
  refine wpAnyH_take (i := 24) (v := .bool false) rfl (by kernel_rfl) (by kernel_rfl) (by kernel_rfl) (fun _ _ _ h => h) (Or.inl ⟨by kernel_rfl, fun w _ => by kernel_rfl⟩) hHeld ?_
  refine wpAnyH_take (i := 25) (v := .bool false) rfl (by kernel_rfl) (by kernel_rfl) (by kernel_rfl) (fun _ _ _ h => h) (Or.inl ⟨by kernel_rfl, fun w _ => by kernel_rfl⟩) hHeld ?_
  refine wpAnyH_take (i := 26) (v := .pointer (some ⟨cb, 0, none⟩)) rfl (by kernel_rfl) (by kernel_rfl) (by kernel_rfl) (fun _ _ _ h => h) (Or.inl ⟨by kernel_rfl, fun w _ => by kernel_rfl⟩) hHeld ?_
  refine wpAnyH_take (i := 28) (v := .pointer (some ⟨rb, 0, none⟩)) rfl (by kernel_rfl) (by kernel_rfl) (by kernel_rfl) (fun _ _ _ h => h) (Or.inl ⟨by kernel_rfl, by intro w hSw; obtain ⟨s0, s1, s2, s3, s4, s5⟩ := hSw; go_simp⟩) hHeld ?_
  refine wpAnyH_take (i := 29) (v := .pointer (some ⟨rb, 0, none⟩)) rfl (by kernel_rfl) (by kernel_rfl) (by kernel_rfl) (fun _ _ _ h => h) (Or.inl ⟨by kernel_rfl, fun w _ => by kernel_rfl⟩) hHeld ?_
  refine wpAnyH_take (i := 30) (v := .pointer (some ⟨rb, 3, none⟩)) rfl (by kernel_rfl) (by kernel_rfl) (by kernel_rfl) (fun _ _ _ h => h) (Or.inl ⟨by kernel_rfl, fun w _ => by kernel_rfl⟩) hHeld ?_
  refine wpAnyH_take (i := 31) (v := .bool U) rfl (by kernel_rfl) (by kernel_rfl) (by kernel_rfl) (fun _ _ _ h => h) (Or.inl ⟨by kernel_rfl, by intro w hSw; obtain ⟨s0, s1, s2, s3, s4, s5⟩ := hSw; go_simp⟩) hHeld ?_
  refine wpAnyH_ready (rs := [27]) (by kernel_rfl) (by simp) ?_
  refine AllReadyH.cons rfl (fun K hK => ?_) AllReadyH.nil
  go_simp
  refine (C4.out _ K3.out).mono ?_
  rintro e z4 ⟨rfl, hk⟩
  have K4 := hid (K3.out.trans hk)
  clear hk
  go_simp
  refine hK.out _ _ (HST.out _ K4.out) (fun hHeld => ?_)
  refine wpAnyH_take (i := 32) (v := .bool false) rfl (by kernel_rfl) (by kernel_rfl) (by kernel_rfl) (fun _ _ _ h => h) (Or.inl ⟨by kernel_rfl, fun w _ => by have := q4; go_simp⟩) hHeld ?_
  refine wpAnyH_take (i := 33) (v := .bool false) rfl (by kernel_rfl) (by kernel_rfl) (by kernel_rfl) (fun _ _ _ h => h) (Or.inl ⟨by kernel_rfl, fun w _ => by kernel_rfl⟩) hHeld ?_
  refine wpAnyH_take (i := 34) (v := .bool false) rfl (by kernel_rfl) (by kernel_rfl) (by kernel_rfl) (fun _ _ _ h => h) (Or.inl ⟨by kernel_rfl, fun w _ => by kernel_rfl⟩) hHeld ?_
  refine wpAnyH_take (i := 35) (v := .pointer (some ⟨cb, 0, none⟩)) rfl (by kernel_rfl) (by kernel_rfl) (by kernel_rfl) (fun _ _ _ h => h) (Or.inl ⟨by kernel_rfl, fun w _ => by kernel_rfl⟩) hHeld ?_
  refine wpAnyH_take (i := 37) (v := .pointer (some ⟨rb, 0, none⟩)) rfl (by kernel_rfl) (by kernel_rfl) (by kernel_rfl) (fun _ _ _ h => h) (Or.inl ⟨by kernel_rfl, by intro w hSw; obtain ⟨s0, s1, s2, s3, s4, s5⟩ := hSw; go_simp⟩) hHeld ?_
  refine wpAnyH_ready (rs := [36]) (by kernel_rfl) (by simp) ?_
  refine AllReadyH.cons rfl (fun K hK => ?_) AllReadyH.nil
  go_simp
  refine (C5.out _ K4.out).mono ?_
  rintro e z5 ⟨rfl, hk⟩
  have K5 := hid (K4.out.trans hk)
  clear hk
  go_simp
  refine hK.out _ _ (HST.out _ K5.out) (fun hHeld => ?_)
  refine wpAnyH_ready (rs := [38]) (by kernel_rfl) (by simp) ?_
  refine AllReadyH.cons rfl (fun K hK => ?_) AllReadyH.nil
  go_simp
  refine (R5.out _ K5.out).mono ?_
  rintro e z6 ⟨rfl, hk⟩
  have K6 := hid (K5.out.trans hk)
  clear hk
  go_simp
  refine hK.out _ _ (HST.out _ K6.out) (fun hHeld => ?_)
  refine wpAnyH_take (i := 39) (v := .bool false) rfl (by kernel_rfl) (by kernel_rfl) (by kernel_rfl) (fun _ _ _ h => h) (Or.inl ⟨by kernel_rfl, fun w _ => by have := q5; go_simp⟩) hHeld ?_
  refine wpAnyH_take (i := 40) (v := .bool false) rfl (by kernel_rfl) (by kernel_rfl) (by kernel_rfl) (fun _ _ _ h => h) (Or.inl ⟨by kernel_rfl, fun w _ => by kernel_rfl⟩) hHeld ?_
  refine wpAnyH_take (i := 41) (v := .bool false) rfl (by kernel_rfl) (by kernel_rfl) (by kernel_rfl) (fun _ _ _ h => h) (Or.inl ⟨by kernel_rfl, fun w _ => by kernel_rfl⟩) hHeld ?_
  refine wpAnyH_take (i := 42) (v := .pointer (some ⟨cb, 0, none⟩)) rfl (by kernel_rfl) (by kernel_rfl) (by kernel_rfl) (fun _ _ _ h => h) (Or.inl ⟨by kernel_rfl, fun w _ => by kernel_rfl⟩) hHeld ?_
  refine wpAnyH_take (i := 44) (v := .pointer (some ⟨rb, 0, none⟩)) rfl (by kernel_rfl) (by kernel_rfl) (by kernel_rfl) (fun _ _ _ h => h) (Or.inl ⟨by kernel_rfl, by intro w hSw; obtain ⟨s0, s1, s2, s3, s4, s5⟩ := hSw; go_simp⟩) hHeld ?_
  refine wpAnyH_ready (rs := [43]) (by kernel_rfl) (by simp) ?_
  refine AllReadyH.cons rfl (fun K hK => ?_) AllReadyH.nil
  go_simp
  refine (C6.out _ K6.out).mono ?_
  rintro e z7 ⟨rfl, hk⟩
  have K7 := hid (K6.out.trans hk)
  clear hk
  go_simp
  refine hK.out _ _ (HST.out _ K7.out) (fun hHeld => ?_)
  refine wpAnyH_ready (rs := [45]) (by kernel_rfl) (by simp) ?_
  refine AllReadyH.cons rfl (fun K hK => ?_) AllReadyH.nil
  go_simp
  refine (R6.out _ K7.out).mono ?_
  rintro e z8 ⟨rfl, hk⟩
  have K8 := hid (K7.out.trans hk)
  clear hk
  go_simp
  refine hK.out _ _ (HST.out _ K8.out) (fun hHeld => ?_)
  refine wpAnyH_take (i := 46) (v := .bool false) rfl (by kernel_rfl) (by kernel_rfl) (by kernel_rfl) (fun _ _ _ h => h) (Or.inl ⟨by kernel_rfl, fun w _ => by have := q6; go_simp⟩) hHeld ?_
  refine wpAnyH_take (i := 47) (v := .bool false) rfl (by kernel_rfl) (by kernel_rfl) (by kernel_rfl) (fun _ _ _ h => h) (Or.inl ⟨by kernel_rfl, fun w _ => by kernel_rfl⟩) hHeld ?_
  refine wpAnyH_take (i := 48) (v := .bool false) rfl (by kernel_rfl) (by kernel_rfl) (by kernel_rfl) (fun _ _ _ h => h) (Or.inl ⟨by kernel_rfl, fun w _ => by kernel_rfl⟩) hHeld ?_
  refine wpAnyH_take (i := 49) (v := .pointer (some ⟨cb, 0, none⟩)) rfl (by kernel_rfl) (by kernel_rfl) (by kernel_rfl) (fun _ _ _ h => h) (Or.inl ⟨by kernel_rfl, fun w _ => by kernel_rfl⟩) hHeld ?_
  refine wpAnyH_take (i := 51) (v := .pointer (some ⟨rb, 0, none⟩)) rfl (by kernel_rfl) (by kernel_rfl) (by kernel_rfl) (fun _ _ _ h => h) (Or.inl ⟨by kernel_rfl, by intro w hSw; obtain ⟨s0, s1, s2, s3, s4, s5⟩ := hSw; go_simp⟩) hHeld ?_
  refine wpAnyH_take (i := 52) (v := .pointer (some ⟨rb, 0, none⟩)) rfl (by kernel_rfl) (by kernel_rfl) (by kernel_rfl) (fun _ _ _ h => h) (Or.inl ⟨by kernel_rfl, fun w _ => by kernel_rfl⟩) hHeld ?_
  refine wpAnyH_take (i := 53) (v := .pointer (some ⟨rb, 4, none⟩)) rfl (by kernel_rfl) (by kernel_rfl) (by kernel_rfl) (fun _ _ _ h => h) (Or.inl ⟨by kernel_rfl, fun w _ => by kernel_rfl⟩) hHeld ?_
  refine wpAnyH_take (i := 54) (v := .slice ao N cp) rfl (by kernel_rfl) (by kernel_rfl) (by kernel_rfl) (fun _ _ _ h => h) (Or.inl ⟨by kernel_rfl, by intro w hSw; obtain ⟨s0, s1, s2, s3, s4, s5⟩ := hSw; go_simp⟩) hHeld ?_
  refine wpAnyH_take (i := 55) (v := .int .i64 (N : Nat)) rfl (by kernel_rfl) (by kernel_rfl) (by kernel_rfl) (fun _ _ _ h => h) (Or.inl ⟨by kernel_rfl, fun w _ => by go_simp⟩) hHeld ?_
  refine wpAnyH_ready (rs := [50]) (by kernel_rfl) (by simp) ?_
  refine AllReadyH.cons rfl (fun K hK => ?_) AllReadyH.nil
  go_simp
  refine (C7.out _ K8.out).mono ?_
  rintro e z9 ⟨rfl, hk⟩
  have K9 := hid (K8.out.trans hk)
  clear hk
  go_simp
  refine hK.out _ _ (HST.out _ K9.out) (fun hHeld => ?_)
  refine wpAnyH_take (i := 56) (v := .bool false) rfl (by kernel_rfl) (by kernel_rfl) (by kernel_rfl) (fun _ _ _ h => h) (Or.inl ⟨by kernel_rfl, fun w _ => by go_simp⟩) hHeld ?_
  refine wpAnyH_take (i := 57) (v := .bool false) rfl (by kernel_rfl) (by kernel_rfl) (by kernel_rfl) (fun _ _ _ h => h) (Or.inl ⟨by kernel_rfl, fun w _ => by kernel_rfl⟩) hHeld ?_
  refine wpAnyH_done (by kernel_rfl) ?_ _
  refine hKK _ _ ?_
  refine act_eq (a' := ⟨#[.pointer (some ⟨cb, 0, none⟩), .pointer (some ⟨rb, 0, none⟩), .int .i64 leave, undef, .pointer (some ⟨ax, 0, none⟩), .pointer (some ⟨ax + 1, 0, none⟩), .pointer (some ⟨ax + 2, 0, none⟩), undef, undef, undef, undef, .pointer (some ⟨cb, 0, none⟩), .bool A, .pointer (some ⟨rb, 0, none⟩), .pointer (some ⟨rb, 0, none⟩), .pointer (some ⟨rb, 0, none⟩), .bool A, .bool false, .bool false, .pointer (some ⟨cb, 0, none⟩), .bool E, .pointer (some ⟨rb, 0, none⟩), .pointer (some ⟨rb, 0, none⟩), .pointer (some ⟨rb, 1, none⟩), .bool NE, .bool false, .bool false, .bool false, .pointer (some ⟨cb, 0, none⟩), .bool O, .pointer (some ⟨rb, 0, none⟩), .pointer (some ⟨rb, 0, none⟩), .pointer (some ⟨rb, 2, none⟩), .bool O, .bool false, .bool false, .bool false, .pointer (some ⟨cb, 0, none⟩), .bool U, .pointer (some ⟨rb, 0, none⟩), .pointer (some ⟨rb, 0, none⟩), .pointer (some ⟨rb, 3, none⟩), .bool U, .bool false, .bool false, .bool false, .pointer (some ⟨cb, 0, none⟩), .bool P1, .pointer (some ⟨rb, 0, none⟩), .bool P1, .bool false, .bool false, .bool false, .pointer (some ⟨cb, 0, none⟩), .bool P2, .pointer (some ⟨rb, 0, none⟩), .bool P2, .bool false, .bool false, .bool false, .pointer (some ⟨cb, 0, none⟩), .int .i64 (N : Nat), .pointer (some ⟨rb, 0, none⟩), .pointer (some ⟨rb, 0, none⟩), .pointer (some ⟨rb, 4, none⟩), .slice ao N cp, .int .i64 (N : Nat), .bool false, .bool false, undef, undef, undef, undef, undef, undef, undef, undef, undef, undef, undef, undef, undef, undef, undef, undef, undef, undef, undef, undef, undef, undef, undef, undef, undef, undef, undef, undef, undef, undef, undef, undef, undef, undef, undef, undef, undef, undef, undef, undef, undef, undef, undef, undef, undef, undef, undef, undef, undef, undef, undef, undef, undef, undef, undef, undef, undef, undef, undef, undef, undef, undef, undef, undef, undef, undef, undef, undef, undef, undef, undef, undef, undef, undef], []⟩) (by kernel_rfl) ?_
  have BY := hid (BX.out.keep K9.out)
  clear HST C1 C2 C3 C4 C5 C6 C7 R5 R6 q1 q2 q3 q4 q5 q6 b1 K0 K1 K2 K3 K4 K5 K6 K7 K8 K9 BX
  have BX := BY
  clear BY
  go_wp2_with fail
  refine (all_any z9 (some ⟨cb, 0, none⟩)).mono ?_
  rintro e y1 ⟨rfl, hy1⟩
  rw [hy1]
  clear hy1
  have hnn := fn_not_nil2
  go_wp2_with fail
  have IX := Itc.new BX.out.c.cv HL8.out
  rw [HX.out] at IX
  have QVX := hid IX
  clear IX
  obtain ⟨wr, hwr0⟩ : ∃ wr, z9 = wr := ⟨_, rfl⟩
  subst hwr0
  obtain ⟨wr, hwr0⟩ : ∃ wr, z9 = wr := ⟨_, rfl⟩
  rw [hwr0] at QVX BX
  try simp only [hwr0]
  clear hwr0
  obtain ⟨ab, hab⟩ : ∃ ab, wr.heap.size = ab := ⟨_, rfl⟩
  have k5 := hid (show Kp wr ((wr.alloc (.cells #[.pointer (some ⟨cb, 0, none⟩)] 23)).alloc (.cells #[.int .i64 0] 3)) [] from (Kp.alloc _ _ _).trans (Kp.alloc _ _ _))
  have it5 := hid (QVX.out.keep (Kp.alloc _ (.cells #[.int .i64 0] 3) []))
  have tu5 := hid (show ((wr.alloc (.cells #[.pointer (some ⟨cb, 0, none⟩)] 23)).alloc (.cells #[.int .i64 0] 3)).heap[wr.heap.size + 1]? = some (.cells #[.int .i64 0] 3 (0, 0)) from by
    have := heap_alloc_new (wr.alloc (.cells #[.pointer (some ⟨cb, 0, none⟩)] 23)) (.cells #[.int .i64 0] 3)
    simpa using this)
  obtain ⟨W5, hW5⟩ : ∃ W5, (wr.alloc (.cells #[.pointer (some ⟨cb, 0, none⟩)] 23)).alloc (.cells #[.int .i64 0] 3) = W5 := ⟨_, rfl⟩
  rw [hW5] at k5 it5 tu5
  rw [hab] at it5 tu5
  try simp only [hW5]
  try simp only [hab]
  have HAB := hid hab
  have a7b : ax + 2 < ab := by rw [← hab]; exact lt_of_block BX.out.bR
  clear hW5 hab hnn QVX
  refine (wpIn_wide (n := 6)).1 ?_
  refine wpIn_loop (fun a1 W => ∃ (t' tq : Nat) (Ds : List Nat) (x9 x73 x74 x75 x76 x77 x113 x114 x115 x116 x117 x118 x119 x120 x121 x122 x123 x124 x125 x126 x127 x128 x129 x130 x131 x132 x133 x134 x135 x136 x137 x138 x139 x140 x141 x142 : Value), t' ≤ 2 ∧ Ds.length = t' ∧ ab < tq ∧ a1 = { tmps := #[.pointer (some ⟨cb, 0, none⟩), .pointer (some ⟨rb, 0, none⟩), .int .i64 leave, undef, .pointer (some ⟨ax, 0, none⟩), .pointer (some ⟨ax + 1, 0, none⟩), .pointer (some ⟨ax + 2, 0, none⟩), itc ab, .pointer (some ⟨tq, 0, none⟩), x9, undef, .pointer (some ⟨cb, 0, none⟩), .bool A, .pointer (some ⟨rb, 0, none⟩), .pointer (some ⟨rb, 0, none⟩), .pointer (some ⟨rb, 0, none⟩), .bool A, .bool false, .bool false, .pointer (some ⟨cb, 0, none⟩), .bool E, .pointer (some ⟨rb, 0, none⟩), .pointer (some ⟨rb, 0, none⟩), .pointer (some ⟨rb, 1, none⟩), .bool NE, .bool false, .bool false, .bool false, .pointer (some ⟨cb, 0, none⟩), .bool O, .pointer (some ⟨rb, 0, none⟩), .pointer (some ⟨rb, 0, none⟩), .pointer (some ⟨rb, 2, none⟩), .bool O, .bool false, .bool false, .bool false, .pointer (some ⟨cb, 0, none⟩), .bool U, .pointer (some ⟨rb, 0, none⟩), .pointer (some ⟨rb, 0, none⟩), .pointer (some ⟨rb, 3, none⟩), .bool U, .bool false, .bool false, .bool false, .pointer (some ⟨cb, 0, none⟩), .bool P1, .pointer (some ⟨rb, 0, none⟩), .bool P1, .bool false, .bool false, .bool false, .pointer (some ⟨cb, 0, none⟩), .bool P2, .pointer (some ⟨rb, 0, none⟩), .bool P2, .bool false, .bool false, .bool false, .pointer (some ⟨cb, 0, none⟩), .int .i64 (N : Nat), .pointer (some ⟨rb, 0, none⟩), .pointer (some ⟨rb, 0, none⟩), .pointer (some ⟨rb, 4, none⟩), .slice ao N cp, .int .i64 (N : Nat), .bool false, .bool false, .pointer (some ⟨cb, 0, none⟩), itc ab, itc ab, .bool false, x73, x74, x75, x76, x77, undef, undef, undef, undef, undef, undef, undef, undef, undef, undef, undef, undef, undef, undef, undef, undef, undef, undef, undef, undef, undef, undef, undef, undef, undef, undef, undef, undef, undef, undef, undef, undef, undef, undef, undef, x113, x114, x115, x116, x117, x118, x119, x120, x121, x122, x123, x124, x125, x126, x127, x128, x129, x130, x131, x132, x133, x134, x135, x136, x137, x138, x139, x140, x141, x142], defers := marks Ds } ∧ Live ab W Ds ∧ Kp wr W [] ∧ Itc W ab Z ∧ W.heap[tq]? = some (.cells #[.int .i64 t'] 3 (0, 0)))
    (fun a1 _ => 2 - a1.defers.length) ⟨0, ab + 1, [], _, _, _, _, _, _, _, _, _, _, _, _, _, _, _, _, _, _, _, _, _, _, _, _, _, _, _, _, _, _, _, _, _, _, _, _, by decide, rfl, by omega, rfl, ⟨by simp, by simp, by simp⟩, k5.out, it5.out, tu5.out⟩ ?_
  rintro a1 W ⟨t', tq, Ds, x9, x73, x74, x75, x76, x77, x113, x114, x115, x116, x117, x118, x119, x120, x121, x122, x123, x124, x125, x126, x127, x128, x129, x130, x131, x132, x133, x134, x135, x136, x137, x138, x139, x140, x141, x142, ht, hDs, hbt, rfl, hLive, hKp, hIt, hTu⟩
  have c16 := cell_one hTu
  have f16 := free_one hTu
  have HLV := hid hLive
  have HKP := hid hKp
  have HIT := hid hIt
  have HTU := hid hTu
  have HDS := hid hDs
  have HABW := hid (show ab < W.heap.size from hIt.lt)
  clear hLive hKp hIt hTu hDs
  by_cases ht2 : t' = 2
  · subst ht2
    have BB := BX.out.keep HKP.out
    have c6 := cell_one BB.bR
    have f6 := free_one BB.bR
    have B6 := hid BB.bR
    clear BB
    gi_wp2
    go_wp2
    refine leaves_marks Ds _ (HLV.out.set B6.out (.bool true)) ?_
    have KZ := kp_shutR (rows := [ax + 2]) Ds _ (HLV.out.set B6.out (.bool true)) (w := wr) (by have := HAB.out; omega) (HKP.out.past' (Kp.setCell W ⟨ax + 2, 0, none⟩ (.bool true)))
    have KW : Kp w (shut (W.setCell ⟨ax + 2, 0, none⟩ (.bool true)) Ds) [] := BX.out.kp.past KZ (by intro k hk hl; have := HAX.out; simp at hk; omega)
    have hcell := cell_one (shut_cells Ds _ (HLV.out.set B6.out (.bool true)) (set_one (x := .bool true) B6.out))
    exact ⟨.bool true, by simp [results, Try.results10, go_sem, hcell], rfl, KW⟩
  · have ht1 : (t' : Int) < 2 := by omega
    gi_wp2
    obtain ⟨nb, hnb⟩ : ∃ nb, W.heap.size = nb := ⟨_, rfl⟩
    have N1 := hid (heap_alloc_new W (.cells #[.int .i64 0] 3))
    have K1 := hid (HKP.out.trans (Kp.alloc W (.cells #[.int .i64 0] 3) []))
    have I1 := hid (HIT.out.keep (Kp.alloc W (.cells #[.int .i64 0] 3) []))
    have KW1 := hid (Kp.alloc W (.cells #[.int .i64 0] 3) [])
    obtain ⟨W6, hW6⟩ : ∃ W6, W.alloc (.cells #[.int .i64 0] 3) = W6 := ⟨_, rfl⟩
    have hs1 : W6.heap.size = nb + 1 := by rw [← hW6, ← hnb]; simp
    rw [hnb] at N1
    rw [hW6] at N1 K1 I1 KW1
    simp only [hnb, hW6]
    have HNB := hid hnb
    have tnb : tq < nb := by rw [← hnb]; exact lt_of_block HTU.out
    have DL := hid (show ∀ D ∈ Ds, D < nb from fun D hm => by rw [← hnb]; exact lt_of_block (HLV.out.1 D hm))
    have SQ := itc_seqs 5 (by decide) ab Z W6 I1.out
    have HS1 := hid hs1
    clear hnb hW6 c16 f16 hs1
    refine range_seqs (K := KcS W6.heap.size) (show 1 ≤ 6 by decide) (gf := 44) (lb := #[.pointer (some ⟨ab, 0, none⟩)]) rfl (enters_of Try.func44 (by kernel_rfl) rfl)
      SQ KcS.trans (kcS_put _) (kcS_alloc _) (Below.refl _ _) (fun _ => rfl)
      (fun pre V => V.heap[nb]? = some (.cells #[.int .i64 (pre.length : Nat)] 3 (0, 0)) ∧ Below W.heap.size W V)
      (fun cc _ V => cc = .exit 2 ∧ t' = 0 ∧ V.heap[nb]? = some (.cells #[.int .i64 leave] 3 (0, 0)) ∧ Below W.heap.size W V)
      (fun s A B row hs hg hr => ⟨cells_kept hs.1 hg hr, (ownFrom_below (β := Unit) (w₀ := W) (Nat.le_refl _) (show W.heap.size ≤ W6.heap.size by have := HNB.out; have := HS1.out; omega)) () A B row hs.2 hg hr⟩)
      (fun cc s A B row hs hg hr => ⟨hs.1, hs.2.1, cells_kept hs.2.2.1 hg hr, (ownFrom_below (β := Unit) (w₀ := W) (Nat.le_refl _) (show W.heap.size ≤ W6.heap.size by have := HNB.out; have := HS1.out; omega)) () A B row hs.2.2.2 hg hr⟩)
      ⟨N1.out, KW1.out.below⟩
      (fun d => .cells #[.int .i64 d.1, .int .i64 d.2] 30)
      (fun d b => { tmps := #[.pointer (some ⟨cb, 0, none⟩), .pointer (some ⟨rb, 0, none⟩), .int .i64 leave, undef, .pointer (some ⟨ax, 0, none⟩), .pointer (some ⟨ax + 1, 0, none⟩), .pointer (some ⟨ax + 2, 0, none⟩), itc ab, .pointer (some ⟨tq, 0, none⟩), .pointer (some ⟨nb, 0, none⟩), .pointer (some ⟨b, 0, none⟩), .pointer (some ⟨cb, 0, none⟩), .bool A, .pointer (some ⟨rb, 0, none⟩), .pointer (some ⟨rb, 0, none⟩), .pointer (some ⟨rb, 0, none⟩), .bool A, .bool false, .bool false, .pointer (some ⟨cb, 0, none⟩), .bool E, .pointer (some ⟨rb, 0, none⟩), .pointer (some ⟨rb, 0, none⟩), .pointer (some ⟨rb, 1, none⟩), .bool NE, .bool false, .bool false, .bool false, .pointer (some ⟨cb, 0, none⟩), .bool O, .pointer (some ⟨rb, 0, none⟩), .pointer (some ⟨rb, 0, none⟩), .pointer (some ⟨rb, 2, none⟩), .bool O, .bool false, .bool false, .bool false, .pointer (some ⟨cb, 0, none⟩), .bool U, .pointer (some ⟨rb, 0, none⟩), .pointer (some ⟨rb, 0, none⟩), .pointer (some ⟨rb, 3, none⟩), .bool U, .bool false, .bool false, .bool false, .pointer (some ⟨cb, 0, none⟩), .bool P1, .pointer (some ⟨rb, 0, none⟩), .bool P1, .bool false, .bool false, .bool false, .pointer (some ⟨cb, 0, none⟩), .bool P2, .pointer (some ⟨rb, 0, none⟩), .bool P2, .bool false, .bool false, .bool false, .pointer (some ⟨cb, 0, none⟩), .int .i64 (N : Nat), .pointer (some ⟨rb, 0, none⟩), .pointer (some ⟨rb, 0, none⟩), .pointer (some ⟨rb, 4, none⟩), .slice ao N cp, .int .i64 (N : Nat), .bool false, .bool false, .pointer (some ⟨cb, 0, none⟩), itc ab, itc ab, .bool false, .int .i64 (t' : Nat), .bool true, x75, x76, itc ab, .agg #[.int .i64 d.1, .int .i64 d.2], undef, undef, undef, undef, undef, undef, undef, undef, undef, undef, undef, undef, undef, undef, undef, undef, undef, undef, undef, undef, undef, undef, undef, undef, undef, undef, undef, undef, undef, undef, undef, undef, undef, undef, x113, x114, x115, x116, x117, x118, x119, x120, x121, x122, x123, x124, x125, x126, x127, x128, x129, x130, x131, x132, x133, x134, x135, x136, x137, x138, x139, x140, x141, x142], defers := [] })
      ?assign ?body ?done ?stop
    case assign =>
      intro l d V K _ hK
      have HK := hid hK
      clear hK
      simp only [encV]
      gi_wp2
      exact HK.out
    case body =>
      rintro l pre d b V hpre hbb ⟨hi1, hi2⟩ hob
      have hltX : pre.length < Z.length := by
        obtain ⟨r, hr⟩ := hpre
        have := congrArg List.length hr
        simp at this
        omega
      have hdd : Z[pre.length]? = some d := by
        obtain ⟨r, hr⟩ := hpre
        rw [← hr]
        simp
      have hltI : ¬ (N : Int) ≤ (pre.length : Int) := by have := HN.out; omega
      have hltJ : (pre.length : Int) < (N : Int) := by have := HN.out; omega
      have hltP : pre.length < N := by have := HN.out; omega
      have hp16 : pre.length ≤ 8 := by have := HN.out; omega
      obtain ⟨kk, hkk⟩ : ∃ kk, N - 1 - pre.length = kk := ⟨_, rfl⟩
      have hltN : kk < N := by omega
      have hltM : (kk : Int) < N := by omega
      have hXk : M.L[kk]? = some d := by rw [HXL.out, ← hkk]; exact HZ.out _ _ hdd
      obtain ⟨n1, hn1⟩ : ∃ n1 : Int, (N : Int) - 1 = n1 := ⟨_, rfl⟩
      have hw1 : IntKind.i64.wrap ((N : Int) - 1) = n1 := by rw [hn1]; exact IntWalk.i64_in _ ⟨by omega, by omega⟩
      have hw2 : IntKind.i64.wrap (n1 - (pre.length : Int)) = (kk : Int) := by
        rw [show n1 - (pre.length : Int) = (kk : Int) by omega]
        exact IntWalk.i64_in _ ⟨by omega, by omega⟩
      have kV := HKP.out.trans (Kp.of_below hi2)
      have BB := BX.out.keep kV
      obtain ⟨g, hao, u5, u6⟩ := BB.r.ms.at hXk
      subst hao
      have u0 := cell_one hi1
      have u1 := cell_one BB.bP
      have u4 := BB.r.c4
      have u2 := cell_two0 hob
      have u3 := cell_two1 hob
      have HB := hid BB
      have H1 := hid hi1
      have H2 := hid hi2
      have TQV := hid ((hi2.block tq (lt_of_block HTU.out)).trans HTU.out)
      have hnq : ∀ W, (binOp .neq 30 (.agg #[.int .i64 d.1, .int .i64 d.2]) (.agg #[.int .i64 d.1, .int .i64 d.2])).run Try.prog W = .ok (.bool false) W := fun W => by rw [neq30]; simp
      have hgd := fun (w : World) (p q : Operand) (xs ys : Array Value) => run_eqGuard_agg (P := Try.prog) w .neq 30 p q xs ys (by kernel_rfl)
      have hmx : Try.prog.follows .mixedOrders = true := by kernel_rfl
      have D0 := hid (show (fun w2 : World => w2.cell? ⟨nb, 0, none⟩ = some (.int .i64 (pre.length : Nat)) ∧ w2.cell? ⟨ax, 0, none⟩ = some (.pointer (some ⟨rb, 0, none⟩)) ∧ w2.cell? ⟨rb, 4, none⟩ = some (.slice (some ⟨g, 0, none⟩) N cp) ∧ w2.cell? ⟨b, 0, none⟩ = some (.int .i64 d.1) ∧ w2.cell? ⟨b, 1, none⟩ = some (.int .i64 d.2) ∧ w2.cell? ⟨g, kk * 2, none⟩ = some (.int .i64 d.1) ∧ w2.cell? ⟨g, kk * 2 + 1, none⟩ = some (.int .i64 d.2)) V.drew from ⟨u0, u1, u4, u2, u3, u5, u6⟩)
      clear hi1 hi2 hpre kV BB hdd hob hXk hkk hn1
      gi_wp2_with fail
      refine Code.wpIn_mono (Q := fun e a' w' => e = .normal ∧ a' = { tmps := #[.pointer (some ⟨cb, 0, none⟩), .pointer (some ⟨rb, 0, none⟩), .int .i64 leave, undef, .pointer (some ⟨ax, 0, none⟩), .pointer (some ⟨ax + 1, 0, none⟩), .pointer (some ⟨ax + 2, 0, none⟩), itc ab, .pointer (some ⟨tq, 0, none⟩), .pointer (some ⟨nb, 0, none⟩), .pointer (some ⟨b, 0, none⟩), .pointer (some ⟨cb, 0, none⟩), .bool A, .pointer (some ⟨rb, 0, none⟩), .pointer (some ⟨rb, 0, none⟩), .pointer (some ⟨rb, 0, none⟩), .bool A, .bool false, .bool false, .pointer (some ⟨cb, 0, none⟩), .bool E, .pointer (some ⟨rb, 0, none⟩), .pointer (some ⟨rb, 0, none⟩), .pointer (some ⟨rb, 1, none⟩), .bool NE, .bool false, .bool false, .bool false, .pointer (some ⟨cb, 0, none⟩), .bool O, .pointer (some ⟨rb, 0, none⟩), .pointer (some ⟨rb, 0, none⟩), .pointer (some ⟨rb, 2, none⟩), .bool O, .bool false, .bool false, .bool false, .pointer (some ⟨cb, 0, none⟩), .bool U, .pointer (some ⟨rb, 0, none⟩), .pointer (some ⟨rb, 0, none⟩), .pointer (some ⟨rb, 3, none⟩), .bool U, .bool false, .bool false, .bool false, .pointer (some ⟨cb, 0, none⟩), .bool P1, .pointer (some ⟨rb, 0, none⟩), .bool P1, .bool false, .bool false, .bool false, .pointer (some ⟨cb, 0, none⟩), .bool P2, .pointer (some ⟨rb, 0, none⟩), .bool P2, .bool false, .bool false, .bool false, .pointer (some ⟨cb, 0, none⟩), .int .i64 (N : Nat), .pointer (some ⟨rb, 0, none⟩), .pointer (some ⟨rb, 0, none⟩), .pointer (some ⟨rb, 4, none⟩), .slice (some ⟨g, 0, none⟩) N cp, .int .i64 (N : Nat), .bool false, .bool false, .pointer (some ⟨cb, 0, none⟩), itc ab, itc ab, .bool false, .int .i64 (t' : Nat), .bool true, x75, x76, itc ab, .agg #[.int .i64 d.1, .int .i64 d.2], .int .i64 (pre.length : Nat), .pointer (some ⟨rb, 0, none⟩), .pointer (some ⟨rb, 0, none⟩), .pointer (some ⟨rb, 4, none⟩), .slice (some ⟨g, 0, none⟩) N cp, .int .i64 (N : Nat), .bool false, .bool false, .agg #[.int .i64 d.1, .int .i64 d.2], .pointer (some ⟨rb, 0, none⟩), .pointer (some ⟨rb, 0, none⟩), .pointer (some ⟨rb, 4, none⟩), .slice (some ⟨g, 0, none⟩) N cp, .pointer (some ⟨rb, 0, none⟩), .pointer (some ⟨rb, 0, none⟩), .pointer (some ⟨rb, 4, none⟩), .slice (some ⟨g, 0, none⟩) N cp, .int .i64 (N : Nat), .int .i64 n1, .int .i64 (pre.length : Nat), .int .i64 (kk : Nat), .pointer (some ⟨g, kk * 2, none⟩), .agg #[.int .i64 d.1, .int .i64 d.2], .bool false, .bool false, undef, undef, undef, undef, undef, undef, undef, undef, undef, x113, x114, x115, x116, x117, x118, x119, x120, x121, x122, x123, x124, x125, x126, x127, x128, x129, x130, x131, x132, x133, x134, x135, x136, x137, x138, x139, x140, x141, x142], defers := [] } ∧ w' = V.drew) ?_ ?_
      rotate_left
      · refine region_round (S := (fun w2 : World => w2.cell? ⟨nb, 0, none⟩ = some (.int .i64 (pre.length : Nat)) ∧ w2.cell? ⟨ax, 0, none⟩ = some (.pointer (some ⟨rb, 0, none⟩)) ∧ w2.cell? ⟨rb, 4, none⟩ = some (.slice (some ⟨g, 0, none⟩) N cp) ∧ w2.cell? ⟨b, 0, none⟩ = some (.int .i64 d.1) ∧ w2.cell? ⟨b, 1, none⟩ = some (.int .i64 d.2) ∧ w2.cell? ⟨g, kk * 2, none⟩ = some (.int .i64 d.1) ∧ w2.cell? ⟨g, kk * 2 + 1, none⟩ = some (.int .i64 d.2))) l _ hmx (noDefer_spec (by kernel_rfl)) (fun ⟨_, _, h⟩ => by cases h.1) ?_
        have hHeld := D0.out
        refine wpAnyH_take (i := 0) (v := .int .i64 (pre.length : Nat)) rfl (by kernel_rfl) (by kernel_rfl) (by kernel_rfl) (fun _ _ _ h => by cases h.1) (Or.inl ⟨by kernel_rfl, by intro w2 hSw; obtain ⟨s1, s2, s3, s4, s5, s6, s7⟩ := hSw; go_simp⟩) hHeld ?_
        refine wpAnyH_take (i := 1) (v := .pointer (some ⟨rb, 0, none⟩)) rfl (by kernel_rfl) (by kernel_rfl) (by kernel_rfl) (fun _ _ _ h => by cases h.1) (Or.inl ⟨by kernel_rfl, by intro w2 hSw; obtain ⟨s1, s2, s3, s4, s5, s6, s7⟩ := hSw; go_simp⟩) hHeld ?_
        refine wpAnyH_take (i := 2) (v := .pointer (some ⟨rb, 0, none⟩)) rfl (by kernel_rfl) (by kernel_rfl) (by kernel_rfl) (fun _ _ _ h => by cases h.1) (Or.inl ⟨by kernel_rfl, by intro w2 hSw; obtain ⟨s1, s2, s3, s4, s5, s6, s7⟩ := hSw; go_simp⟩) hHeld ?_
        refine wpAnyH_take (i := 3) (v := .pointer (some ⟨rb, 4, none⟩)) rfl (by kernel_rfl) (by kernel_rfl) (by kernel_rfl) (fun _ _ _ h => by cases h.1) (Or.inl ⟨by kernel_rfl, by intro w2 hSw; obtain ⟨s1, s2, s3, s4, s5, s6, s7⟩ := hSw; go_simp⟩) hHeld ?_
        refine wpAnyH_take (i := 4) (v := .slice (some ⟨g, 0, none⟩) N cp) rfl (by kernel_rfl) (by kernel_rfl) (by kernel_rfl) (fun _ _ _ h => by cases h.1) (Or.inl ⟨by kernel_rfl, by intro w2 hSw; obtain ⟨s1, s2, s3, s4, s5, s6, s7⟩ := hSw; go_simp⟩) hHeld ?_
        refine wpAnyH_take (i := 5) (v := .int .i64 (N : Nat)) rfl (by kernel_rfl) (by kernel_rfl) (by kernel_rfl) (fun _ _ _ h => by cases h.1) (Or.inl ⟨by kernel_rfl, by intro w2 hSw; obtain ⟨s1, s2, s3, s4, s5, s6, s7⟩ := hSw; go_simp⟩) hHeld ?_
        refine wpAnyH_take (i := 6) (v := .bool false) rfl (by kernel_rfl) (by kernel_rfl) (by kernel_rfl) (fun _ _ _ h => by cases h.1) (Or.inl ⟨by kernel_rfl, by intro w2 hSw; obtain ⟨s1, s2, s3, s4, s5, s6, s7⟩ := hSw; go_simp⟩) hHeld ?_
        refine wpAnyH_take (i := 7) (v := .bool false) rfl (by kernel_rfl) (by kernel_rfl) (by kernel_rfl) (fun _ _ _ h => by cases h.1) (Or.inl ⟨by kernel_rfl, by intro w2 hSw; obtain ⟨s1, s2, s3, s4, s5, s6, s7⟩ := hSw; go_simp⟩) hHeld ?_
        refine wpAnyH_take (i := 8) (v := .agg #[.int .i64 d.1, .int .i64 d.2]) rfl (by kernel_rfl) (by kernel_rfl) (by kernel_rfl) (fun _ _ _ h => by cases h.1) (Or.inl ⟨by kernel_rfl, by intro w2 hSw; obtain ⟨s1, s2, s3, s4, s5, s6, s7⟩ := hSw; go_simp⟩) hHeld ?_
        refine wpAnyH_take (i := 9) (v := .pointer (some ⟨rb, 0, none⟩)) rfl (by kernel_rfl) (by kernel_rfl) (by kernel_rfl) (fun _ _ _ h => by cases h.1) (Or.inl ⟨by kernel_rfl, by intro w2 hSw; obtain ⟨s1, s2, s3, s4, s5, s6, s7⟩ := hSw; go_simp⟩) hHeld ?_
        refine wpAnyH_take (i := 10) (v := .pointer (some ⟨rb, 0, none⟩)) rfl (by kernel_rfl) (by kernel_rfl) (by kernel_rfl) (fun _ _ _ h => by cases h.1) (Or.inl ⟨by kernel_rfl, by intro w2 hSw; obtain ⟨s1, s2, s3, s4, s5, s6, s7⟩ := hSw; go_simp⟩) hHeld ?_
        refine wpAnyH_take (i := 11) (v := .pointer (some ⟨rb, 4, none⟩)) rfl (by kernel_rfl) (by kernel_rfl) (by kernel_rfl) (fun _ _ _ h => by cases h.1) (Or.inl ⟨by kernel_rfl, by intro w2 hSw; obtain ⟨s1, s2, s3, s4, s5, s6, s7⟩ := hSw; go_simp⟩) hHeld ?_
        refine wpAnyH_take (i := 12) (v := .slice (some ⟨g, 0, none⟩) N cp) rfl (by kernel_rfl) (by kernel_rfl) (by kernel_rfl) (fun _ _ _ h => by cases h.1) (Or.inl ⟨by kernel_rfl, by intro w2 hSw; obtain ⟨s1, s2, s3, s4, s5, s6, s7⟩ := hSw; go_simp⟩) hHeld ?_
        refine wpAnyH_take (i := 13) (v := .pointer (some ⟨rb, 0, none⟩)) rfl (by kernel_rfl) (by kernel_rfl) (by kernel_rfl) (fun _ _ _ h => by cases h.1) (Or.inl ⟨by kernel_rfl, by intro w2 hSw; obtain ⟨s1, s2, s3, s4, s5, s6, s7⟩ := hSw; go_simp⟩) hHeld ?_
        refine wpAnyH_take (i := 14) (v := .pointer (some ⟨rb, 0, none⟩)) rfl (by kernel_rfl) (by kernel_rfl) (by kernel_rfl) (fun _ _ _ h => by cases h.1) (Or.inl ⟨by kernel_rfl, by intro w2 hSw; obtain ⟨s1, s2, s3, s4, s5, s6, s7⟩ := hSw; go_simp⟩) hHeld ?_
        refine wpAnyH_take (i := 15) (v := .pointer (some ⟨rb, 4, none⟩)) rfl (by kernel_rfl) (by kernel_rfl) (by kernel_rfl) (fun _ _ _ h => by cases h.1) (Or.inl ⟨by kernel_rfl, by intro w2 hSw; obtain ⟨s1, s2, s3, s4, s5, s6, s7⟩ := hSw; go_simp⟩) hHeld ?_
        refine wpAnyH_take (i := 16) (v := .slice (some ⟨g, 0, none⟩) N cp) rfl (by kernel_rfl) (by kernel_rfl) (by kernel_rfl) (fun _ _ _ h => by cases h.1) (Or.inl ⟨by kernel_rfl, by intro w2 hSw; obtain ⟨s1, s2, s3, s4, s5, s6, s7⟩ := hSw; go_simp⟩) hHeld ?_
        refine wpAnyH_take (i := 17) (v := .int .i64 (N : Nat)) rfl (by kernel_rfl) (by kernel_rfl) (by kernel_rfl) (fun _ _ _ h => by cases h.1) (Or.inl ⟨by kernel_rfl, by intro w2 hSw; obtain ⟨s1, s2, s3, s4, s5, s6, s7⟩ := hSw; go_simp⟩) hHeld ?_
        refine wpAnyH_take (i := 18) (v := .int .i64 n1) rfl (by kernel_rfl) (by kernel_rfl) (by kernel_rfl) (fun _ _ _ h => by cases h.1) (Or.inl ⟨by kernel_rfl, by intro w2 hSw; obtain ⟨s1, s2, s3, s4, s5, s6, s7⟩ := hSw; go_simp⟩) hHeld ?_
        refine wpAnyH_take (i := 19) (v := .int .i64 (pre.length : Nat)) rfl (by kernel_rfl) (by kernel_rfl) (by kernel_rfl) (fun _ _ _ h => by cases h.1) (Or.inl ⟨by kernel_rfl, by intro w2 hSw; obtain ⟨s1, s2, s3, s4, s5, s6, s7⟩ := hSw; go_simp⟩) hHeld ?_
        refine wpAnyH_take (i := 20) (v := .int .i64 (kk : Nat)) rfl (by kernel_rfl) (by kernel_rfl) (by kernel_rfl) (fun _ _ _ h => by cases h.1) (Or.inl ⟨by kernel_rfl, by intro w2 hSw; obtain ⟨s1, s2, s3, s4, s5, s6, s7⟩ := hSw; go_simp⟩) hHeld ?_
        refine wpAnyH_take (i := 21) (v := .pointer (some ⟨g, kk * 2, none⟩)) rfl (by kernel_rfl) (by kernel_rfl) (by kernel_rfl) (fun _ _ _ h => by cases h.1) (Or.inl ⟨by kernel_rfl, by intro w2 hSw; obtain ⟨s1, s2, s3, s4, s5, s6, s7⟩ := hSw; go_simp⟩) hHeld ?_
        refine wpAnyH_take (i := 22) (v := .agg #[.int .i64 d.1, .int .i64 d.2]) rfl (by kernel_rfl) (by kernel_rfl) (by kernel_rfl) (fun _ _ _ h => by cases h.1) (Or.inl ⟨by kernel_rfl, by intro w2 hSw; obtain ⟨s1, s2, s3, s4, s5, s6, s7⟩ := hSw; go_simp⟩) hHeld ?_
        refine wpAnyH_take (i := 23) (v := .bool false) rfl (by kernel_rfl) (by kernel_rfl) (by kernel_rfl) (fun _ _ _ h => by cases h.1) (Or.inl ⟨by kernel_rfl, by intro w2 hSw; obtain ⟨s1, s2, s3, s4, s5, s6, s7⟩ := hSw; go_simp⟩) hHeld ?_
        refine wpAnyH_take (i := 24) (v := .bool false) rfl (by kernel_rfl) (by kernel_rfl) (by kernel_rfl) (fun _ _ _ h => by cases h.1) (Or.inl ⟨by kernel_rfl, by intro w2 hSw; obtain ⟨s1, s2, s3, s4, s5, s6, s7⟩ := hSw; go_simp⟩) hHeld ?_
        refine wpAnyH_done (by kernel_rfl) ?_ _
        exact ⟨rfl, by kernel_rfl, rfl⟩
      rintro e a' V2 ⟨rfl, rfl, rfl⟩
      have k0 := cell_one H1.out
      have f0 := free_one H1.out
      have nu := hid (set_one (w := V) (x := .int .i64 ((pre.length : Int) + 1)) H1.out)
      have k16 := cell_one ((Below.heap_setCell V ⟨nb, 0, none⟩ (.int .i64 ((pre.length : Int) + 1)) tq (by simp; omega)).trans TQV.out)
      have k7 := cell_one ((Below.heap_setCell V ⟨nb, 0, none⟩ (.int .i64 ((pre.length : Int) + 1)) (ax + 1) (by simp; omega)).trans HB.out.bL)
      have k17 := cell_one nu.out
      have KD := hid (show KcS W6.heap.size V (V.setCell ⟨nb, 0, none⟩ (.int .i64 ((pre.length : Int) + 1))).drew from KcS.of_kp ((Kp.setCell V ⟨nb, 0, none⟩ (.int .i64 ((pre.length : Int) + 1))).trans (Kp.drew _ _)) (fun k hk c f => by
        simp at hk
        subst hk
        rw [H1.out]
        simp))
      have KF := hid (show KeepsFrom W6.heap.size V (V.setCell ⟨nb, 0, none⟩ (.int .i64 ((pre.length : Int) + 1))).drew from ⟨by simp, fun k o hk h ho => (Below.heap_setCell V _ _ k (by have := HS1.out; simp; omega)).trans h⟩)
      have BL := hid (show Below W.heap.size W (V.setCell ⟨nb, 0, none⟩ (.int .i64 ((pre.length : Int) + 1))).drew from below_drew (H2.out.setCell (p := ⟨nb, 0, none⟩) (by have := HNB.out; simp; omega) _))
      clear u0 u1 u2 u3 u4 u5 u6 hnq hgd hw1 hw2
      by_cases htz : t' = 0
      · have tz : ((t' : Int) == 0) = true := by rw [htz]; rfl
        have HT := hid htz
        clear htz
        by_cases hle' : (pre.length : Int) + 1 = leave
        · have tl : ((pre.length : Int) + 1 == leave) = true := by simp [hle']
          have HLE := hid hle'
          clear hle'
          gi_wp2
          refine ⟨KF.out, rfl, HT.out, ?_, BL.out⟩
          rw [← HLE.out]
          exact nu.out
        · have tl : ((pre.length : Int) + 1 == leave) = false := by simpa using hle'
          gi_wp2
          refine ⟨KF.out, KD.out, ?_, BL.out⟩
          rw [show (((pre ++ [d]).length : Nat) : Int) = (pre.length : Int) + 1 by simp]
          exact nu.out
      · have tz : ((t' : Int) == 0) = false := by simp; omega
        gi_wp2
        refine ⟨KF.out, KD.out, ?_, BL.out⟩
        rw [show (((pre ++ [d]).length : Nat) : Int) = (pre.length : Int) + 1 by simp]
        exact nu.out
    case done =>
      rintro D V hD ⟨hi1, hi2⟩ hK
      rw [HN.out] at hi1
      have kV := HKP.out.trans (Kp.of_below hi2)
      have BB := BX.out.keep kV
      have v1 := cell_one BB.bP
      have v2 := BB.r.c4
      have v3 := cell_one BB.bL
      have c8 := cell_one ((hi2.block tq (lt_of_block HTU.out)).trans HTU.out)
      have c9 := cell_one hi1
      have KV := hid kV
      have IV := hid (HIT.out.keep (Kp.of_below hi2))
      have LV := hid (show Live ab V Ds from ⟨fun E hE => (hi2.block E (lt_of_block (HLV.out.1 E hE))).trans (HLV.out.1 E hE), HLV.out.2⟩)
      have HK := hid hK
      clear kV BB hi1 hi2 hK
      have tn : ((N : Int) != (N : Int)) = false := by simp
      by_cases htz : t' = 0
      · have tz : ((t' : Int) == 0) = true := by rw [htz]; rfl
        have tz1 : ((t' : Int) == 1) = false := by rw [htz]; rfl
        clear htz
        gi_wp2_with fail
        have hmx : Try.prog.follows .mixedOrders = true := by kernel_rfl
        have D0 := hid (show (fun w2 : World => w2.cell? ⟨tq, 0, none⟩ = some (.int .i64 (t' : Nat)) ∧ w2.cell? ⟨nb, 0, none⟩ = some (.int .i64 (N : Nat)) ∧ w2.cell? ⟨ax, 0, none⟩ = some (.pointer (some ⟨rb, 0, none⟩)) ∧ w2.cell? ⟨rb, 4, none⟩ = some (.slice ao N cp) ∧ w2.cell? ⟨ax + 1, 0, none⟩ = some (.int .i64 leave)) V.drew from ⟨c8, c9, v1, v2, v3⟩)
        refine Code.wpIn_mono (Q := fun e a' w' => e = .normal ∧ a' = { tmps := #[.pointer (some ⟨cb, 0, none⟩), .pointer (some ⟨rb, 0, none⟩), .int .i64 leave, undef, .pointer (some ⟨ax, 0, none⟩), .pointer (some ⟨ax + 1, 0, none⟩), .pointer (some ⟨ax + 2, 0, none⟩), itc ab, .pointer (some ⟨tq, 0, none⟩), .pointer (some ⟨nb, 0, none⟩), undef, .pointer (some ⟨cb, 0, none⟩), .bool A, .pointer (some ⟨rb, 0, none⟩), .pointer (some ⟨rb, 0, none⟩), .pointer (some ⟨rb, 0, none⟩), .bool A, .bool false, .bool false, .pointer (some ⟨cb, 0, none⟩), .bool E, .pointer (some ⟨rb, 0, none⟩), .pointer (some ⟨rb, 0, none⟩), .pointer (some ⟨rb, 1, none⟩), .bool NE, .bool false, .bool false, .bool false, .pointer (some ⟨cb, 0, none⟩), .bool O, .pointer (some ⟨rb, 0, none⟩), .pointer (some ⟨rb, 0, none⟩), .pointer (some ⟨rb, 2, none⟩), .bool O, .bool false, .bool false, .bool false, .pointer (some ⟨cb, 0, none⟩), .bool U, .pointer (some ⟨rb, 0, none⟩), .pointer (some ⟨rb, 0, none⟩), .pointer (some ⟨rb, 3, none⟩), .bool U, .bool false, .bool false, .bool false, .pointer (some ⟨cb, 0, none⟩), .bool P1, .pointer (some ⟨rb, 0, none⟩), .bool P1, .bool false, .bool false, .bool false, .pointer (some ⟨cb, 0, none⟩), .bool P2, .pointer (some ⟨rb, 0, none⟩), .bool P2, .bool false, .bool false, .bool false, .pointer (some ⟨cb, 0, none⟩), .int .i64 (N : Nat), .pointer (some ⟨rb, 0, none⟩), .pointer (some ⟨rb, 0, none⟩), .pointer (some ⟨rb, 4, none⟩), .slice ao N cp, .int .i64 (N : Nat), .bool false, .bool false, .pointer (some ⟨cb, 0, none⟩), itc ab, itc ab, .bool false, .int .i64 (t' : Nat), .bool true, x75, x76, itc ab, undef, undef, undef, undef, undef, undef, undef, undef, undef, undef, undef, undef, undef, undef, undef, undef, undef, undef, undef, undef, undef, undef, undef, undef, undef, undef, undef, undef, undef, undef, undef, undef, undef, undef, undef, .int .i64 (t' : Nat), .bool false, .bool false, undef, undef, undef, undef, undef, undef, undef, .bool false, .bool false, .int .i64 (t' : Nat), .bool true, .bool true, .int .i64 (N : Nat), .pointer (some ⟨rb, 0, none⟩), .pointer (some ⟨rb, 0, none⟩), .pointer (some ⟨rb, 4, none⟩), .slice ao N cp, .int .i64 (N : Nat), .bool false, .bool false, .bool false, undef, undef, undef, .bool false, .bool false, x142], defers := marks (D :: Ds) } ∧ w' = V.drew) ?_ ?_
        rotate_left
        · refine wpIn_wide.2 ?_
          refine wp_region_held_drew (S := (fun w2 : World => w2.cell? ⟨tq, 0, none⟩ = some (.int .i64 (t' : Nat)) ∧ w2.cell? ⟨nb, 0, none⟩ = some (.int .i64 (N : Nat)) ∧ w2.cell? ⟨ax, 0, none⟩ = some (.pointer (some ⟨rb, 0, none⟩)) ∧ w2.cell? ⟨rb, 4, none⟩ = some (.slice ao N cp) ∧ w2.cell? ⟨ax + 1, 0, none⟩ = some (.int .i64 leave))) (by kernel_rfl) (D0.out) (fun hHeld => ?_)
          refine wpAnyH_take (i := 0) (v := .int .i64 (t' : Nat)) rfl (by kernel_rfl) (by kernel_rfl) (by kernel_rfl) (fun _ _ _ h => by cases h.1) (Or.inl ⟨by kernel_rfl, by intro w2 hSw; obtain ⟨s1, s2, s3, s4, s5⟩ := hSw; go_simp⟩) hHeld ?_
          refine wpAnyH_take (i := 1) (v := .bool false) rfl (by kernel_rfl) (by kernel_rfl) (by kernel_rfl) (fun _ _ _ h => by cases h.1) (Or.inl ⟨by kernel_rfl, by intro w2 hSw; obtain ⟨s1, s2, s3, s4, s5⟩ := hSw; go_simp⟩) hHeld ?_
          refine wpAnyH_take (i := 2) (v := .bool false) rfl (by kernel_rfl) (by kernel_rfl) (by kernel_rfl) (fun _ _ _ h => by cases h.1) (Or.inl ⟨by kernel_rfl, by intro w2 hSw; obtain ⟨s1, s2, s3, s4, s5⟩ := hSw; go_simp⟩) hHeld ?_
          refine wpAnyH_take (i := 3) (v := undef) rfl (by kernel_rfl) (by kernel_rfl) (by kernel_rfl) (fun _ _ _ h => by cases h.1) (Or.inr ⟨by kernel_rfl, rfl⟩) hHeld ?_
          refine wpAnyH_take (i := 4) (v := undef) rfl (by kernel_rfl) (by kernel_rfl) (by kernel_rfl) (fun _ _ _ h => by cases h.1) (Or.inr ⟨by kernel_rfl, rfl⟩) hHeld ?_
          refine wpAnyH_take (i := 5) (v := undef) rfl (by kernel_rfl) (by kernel_rfl) (by kernel_rfl) (fun _ _ _ h => by cases h.1) (Or.inr ⟨by kernel_rfl, rfl⟩) hHeld ?_
          refine wpAnyH_take (i := 6) (v := undef) rfl (by kernel_rfl) (by kernel_rfl) (by kernel_rfl) (fun _ _ _ h => by cases h.1) (Or.inr ⟨by kernel_rfl, rfl⟩) hHeld ?_
          refine wpAnyH_take (i := 7) (v := undef) rfl (by kernel_rfl) (by kernel_rfl) (by kernel_rfl) (fun _ _ _ h => by cases h.1) (Or.inr ⟨by kernel_rfl, rfl⟩) hHeld ?_
          refine wpAnyH_take (i := 8) (v := undef) rfl (by kernel_rfl) (by kernel_rfl) (by kernel_rfl) (fun _ _ _ h => by cases h.1) (Or.inr ⟨by kernel_rfl, rfl⟩) hHeld ?_
          refine wpAnyH_take (i := 9) (v := undef) rfl (by kernel_rfl) (by kernel_rfl) (by kernel_rfl) (fun _ _ _ h => by cases h.1) (Or.inr ⟨by kernel_rfl, rfl⟩) hHeld ?_
          refine wpAnyH_take (i := 10) (v := .bool false) rfl (by kernel_rfl) (by kernel_rfl) (by kernel_rfl) (fun _ _ _ h => by cases h.1) (Or.inl ⟨by kernel_rfl, by intro w2 hSw; obtain ⟨s1, s2, s3, s4, s5⟩ := hSw; go_simp⟩) hHeld ?_
          refine wpAnyH_take (i := 11) (v := .bool false) rfl (by kernel_rfl) (by kernel_rfl) (by kernel_rfl) (fun _ _ _ h => by cases h.1) (Or.inl ⟨by kernel_rfl, by intro w2 hSw; obtain ⟨s1, s2, s3, s4, s5⟩ := hSw; go_simp⟩) hHeld ?_
          refine wpAnyH_take (i := 12) (v := .int .i64 (t' : Nat)) rfl (by kernel_rfl) (by kernel_rfl) (by kernel_rfl) (fun _ _ _ h => by cases h.1) (Or.inl ⟨by kernel_rfl, by intro w2 hSw; obtain ⟨s1, s2, s3, s4, s5⟩ := hSw; go_simp⟩) hHeld ?_
          refine wpAnyH_take (i := 13) (v := .bool true) rfl (by kernel_rfl) (by kernel_rfl) (by kernel_rfl) (fun _ _ _ h => by cases h.1) (Or.inl ⟨by kernel_rfl, by intro w2 hSw; obtain ⟨s1, s2, s3, s4, s5⟩ := hSw; go_simp⟩) hHeld ?_
          refine wpAnyH_take (i := 14) (v := .bool true) rfl (by kernel_rfl) (by kernel_rfl) (by kernel_rfl) (fun _ _ _ h => by cases h.1) (Or.inl ⟨by kernel_rfl, by intro w2 hSw; obtain ⟨s1, s2, s3, s4, s5⟩ := hSw; go_simp⟩) hHeld ?_
          refine wpAnyH_take (i := 15) (v := .int .i64 (N : Nat)) rfl (by kernel_rfl) (by kernel_rfl) (by kernel_rfl) (fun _ _ _ h => by cases h.1) (Or.inl ⟨by kernel_rfl, by intro w2 hSw; obtain ⟨s1, s2, s3, s4, s5⟩ := hSw; go_simp⟩) hHeld ?_
          refine wpAnyH_take (i := 16) (v := .pointer (some ⟨rb, 0, none⟩)) rfl (by kernel_rfl) (by kernel_rfl) (by kernel_rfl) (fun _ _ _ h => by cases h.1) (Or.inl ⟨by kernel_rfl, by intro w2 hSw; obtain ⟨s1, s2, s3, s4, s5⟩ := hSw; go_simp⟩) hHeld ?_
          refine wpAnyH_take (i := 17) (v := .pointer (some ⟨rb, 0, none⟩)) rfl (by kernel_rfl) (by kernel_rfl) (by kernel_rfl) (fun _ _ _ h => by cases h.1) (Or.inl ⟨by kernel_rfl, by intro w2 hSw; obtain ⟨s1, s2, s3, s4, s5⟩ := hSw; go_simp⟩) hHeld ?_
          refine wpAnyH_take (i := 18) (v := .pointer (some ⟨rb, 4, none⟩)) rfl (by kernel_rfl) (by kernel_rfl) (by kernel_rfl) (fun _ _ _ h => by cases h.1) (Or.inl ⟨by kernel_rfl, by intro w2 hSw; obtain ⟨s1, s2, s3, s4, s5⟩ := hSw; go_simp⟩) hHeld ?_
          refine wpAnyH_take (i := 19) (v := .slice ao N cp) rfl (by kernel_rfl) (by kernel_rfl) (by kernel_rfl) (fun _ _ _ h => by cases h.1) (Or.inl ⟨by kernel_rfl, by intro w2 hSw; obtain ⟨s1, s2, s3, s4, s5⟩ := hSw; go_simp⟩) hHeld ?_
          refine wpAnyH_take (i := 20) (v := .int .i64 (N : Nat)) rfl (by kernel_rfl) (by kernel_rfl) (by kernel_rfl) (fun _ _ _ h => by cases h.1) (Or.inl ⟨by kernel_rfl, by intro w2 hSw; obtain ⟨s1, s2, s3, s4, s5⟩ := hSw; go_simp⟩) hHeld ?_
          refine wpAnyH_take (i := 21) (v := .bool false) rfl (by kernel_rfl) (by kernel_rfl) (by kernel_rfl) (fun _ _ _ h => by cases h.1) (Or.inl ⟨by kernel_rfl, by intro w2 hSw; obtain ⟨s1, s2, s3, s4, s5⟩ := hSw; go_simp⟩) hHeld ?_
          refine wpAnyH_take (i := 22) (v := .bool false) rfl (by kernel_rfl) (by kernel_rfl) (by kernel_rfl) (fun _ _ _ h => by cases h.1) (Or.inl ⟨by kernel_rfl, by intro w2 hSw; obtain ⟨s1, s2, s3, s4, s5⟩ := hSw; go_simp⟩) hHeld ?_
          refine wpAnyH_take (i := 23) (v := .bool false) rfl (by kernel_rfl) (by kernel_rfl) (by kernel_rfl) (fun _ _ _ h => by cases h.1) (Or.inl ⟨by kernel_rfl, by intro w2 hSw; obtain ⟨s1, s2, s3, s4, s5⟩ := hSw; go_simp⟩) hHeld ?_
          refine wpAnyH_take (i := 24) (v := undef) rfl (by kernel_rfl) (by kernel_rfl) (by kernel_rfl) (fun _ _ _ h => by cases h.1) (Or.inr ⟨by kernel_rfl, rfl⟩) hHeld ?_
          refine wpAnyH_take (i := 25) (v := undef) rfl (by kernel_rfl) (by kernel_rfl) (by kernel_rfl) (fun _ _ _ h => by cases h.1) (Or.inr ⟨by kernel_rfl, rfl⟩) hHeld ?_
          refine wpAnyH_take (i := 26) (v := undef) rfl (by kernel_rfl) (by kernel_rfl) (by kernel_rfl) (fun _ _ _ h => by cases h.1) (Or.inr ⟨by kernel_rfl, rfl⟩) hHeld ?_
          refine wpAnyH_take (i := 27) (v := .bool false) rfl (by kernel_rfl) (by kernel_rfl) (by kernel_rfl) (fun _ _ _ h => by cases h.1) (Or.inl ⟨by kernel_rfl, by intro w2 hSw; obtain ⟨s1, s2, s3, s4, s5⟩ := hSw; go_simp⟩) hHeld ?_
          refine wpAnyH_take (i := 28) (v := .bool false) rfl (by kernel_rfl) (by kernel_rfl) (by kernel_rfl) (fun _ _ _ h => by cases h.1) (Or.inl ⟨by kernel_rfl, by intro w2 hSw; obtain ⟨s1, s2, s3, s4, s5⟩ := hSw; go_simp⟩) hHeld ?_
          refine wpAnyH_done (by kernel_rfl) ?_ _
          exact ⟨rfl, by kernel_rfl, rfl⟩
        rintro e a' V2 ⟨rfl, rfl, rfl⟩
        gi_wp2
        refine ⟨⟨t' + 1, by omega, V.heap.size, D :: Ds, by simp [HDS.out], by have := IV.out.lt; omega, ⟨rfl, rfl⟩, (LV.out.alloc _).more ((Below.heap_alloc _ _ _ (lt_of_block HK.out)).trans HK.out) (fun E hE => by have := DL.out E hE; have := HNB.out; have := HS1.out; omega) (by have := HNB.out; have := HABW.out; have := HS1.out; omega), KV.out.trans ((Kp.drew _ _).trans (Kp.alloc _ _ _)), IV.out.keep ((Kp.drew _ _).trans (Kp.alloc _ _ _)), ?_⟩, by simp [marks, HDS.out]; omega⟩
        rw [show (((t' + 1 : Nat)) : Int) = (t' : Int) + 1 by simp]
        exact heap_alloc_new V (.cells #[.int .i64 ((t' : Int) + 1)] 3)
      · have tz : ((t' : Int) == 0) = false := by rw [beq_eq_false_iff_ne]; omega
        have tz1 : ((t' : Int) == 1) = true := by rw [beq_iff_eq]; omega
        clear htz
        gi_wp2_with fail
        have hmx : Try.prog.follows .mixedOrders = true := by kernel_rfl
        have D0 := hid (show (fun w2 : World => w2.cell? ⟨tq, 0, none⟩ = some (.int .i64 (t' : Nat)) ∧ w2.cell? ⟨nb, 0, none⟩ = some (.int .i64 (N : Nat)) ∧ w2.cell? ⟨ax, 0, none⟩ = some (.pointer (some ⟨rb, 0, none⟩)) ∧ w2.cell? ⟨rb, 4, none⟩ = some (.slice ao N cp) ∧ w2.cell? ⟨ax + 1, 0, none⟩ = some (.int .i64 leave)) V.drew from ⟨c8, c9, v1, v2, v3⟩)
        refine Code.wpIn_mono (Q := fun e a' w' => e = .normal ∧ a' = { tmps := #[.pointer (some ⟨cb, 0, none⟩), .pointer (some ⟨rb, 0, none⟩), .int .i64 leave, undef, .pointer (some ⟨ax, 0, none⟩), .pointer (some ⟨ax + 1, 0, none⟩), .pointer (some ⟨ax + 2, 0, none⟩), itc ab, .pointer (some ⟨tq, 0, none⟩), .pointer (some ⟨nb, 0, none⟩), undef, .pointer (some ⟨cb, 0, none⟩), .bool A, .pointer (some ⟨rb, 0, none⟩), .pointer (some ⟨rb, 0, none⟩), .pointer (some ⟨rb, 0, none⟩), .bool A, .bool false, .bool false, .pointer (some ⟨cb, 0, none⟩), .bool E, .pointer (some ⟨rb, 0, none⟩), .pointer (some ⟨rb, 0, none⟩), .pointer (some ⟨rb, 1, none⟩), .bool NE, .bool false, .bool false, .bool false, .pointer (some ⟨cb, 0, none⟩), .bool O, .pointer (some ⟨rb, 0, none⟩), .pointer (some ⟨rb, 0, none⟩), .pointer (some ⟨rb, 2, none⟩), .bool O, .bool false, .bool false, .bool false, .pointer (some ⟨cb, 0, none⟩), .bool U, .pointer (some ⟨rb, 0, none⟩), .pointer (some ⟨rb, 0, none⟩), .pointer (some ⟨rb, 3, none⟩), .bool U, .bool false, .bool false, .bool false, .pointer (some ⟨cb, 0, none⟩), .bool P1, .pointer (some ⟨rb, 0, none⟩), .bool P1, .bool false, .bool false, .bool false, .pointer (some ⟨cb, 0, none⟩), .bool P2, .pointer (some ⟨rb, 0, none⟩), .bool P2, .bool false, .bool false, .bool false, .pointer (some ⟨cb, 0, none⟩), .int .i64 (N : Nat), .pointer (some ⟨rb, 0, none⟩), .pointer (some ⟨rb, 0, none⟩), .pointer (some ⟨rb, 4, none⟩), .slice ao N cp, .int .i64 (N : Nat), .bool false, .bool false, .pointer (some ⟨cb, 0, none⟩), itc ab, itc ab, .bool false, .int .i64 (t' : Nat), .bool true, x75, x76, itc ab, undef, undef, undef, undef, undef, undef, undef, undef, undef, undef, undef, undef, undef, undef, undef, undef, undef, undef, undef, undef, undef, undef, undef, undef, undef, undef, undef, undef, undef, undef, undef, undef, undef, undef, undef, .int .i64 (t' : Nat), .bool true, .bool true, .int .i64 (N : Nat), .pointer (some ⟨rb, 0, none⟩), .pointer (some ⟨rb, 0, none⟩), .pointer (some ⟨rb, 4, none⟩), .slice ao N cp, .int .i64 (N : Nat), .bool false, .bool false, .bool false, .int .i64 (t' : Nat), .bool false, .bool false, undef, undef, undef, undef, undef, undef, undef, .bool false, .bool false, undef, undef, undef, .bool false, .bool false, x142], defers := marks (D :: Ds) } ∧ w' = V.drew) ?_ ?_
        rotate_left
        · refine wpIn_wide.2 ?_
          refine wp_region_held_drew (S := (fun w2 : World => w2.cell? ⟨tq, 0, none⟩ = some (.int .i64 (t' : Nat)) ∧ w2.cell? ⟨nb, 0, none⟩ = some (.int .i64 (N : Nat)) ∧ w2.cell? ⟨ax, 0, none⟩ = some (.pointer (some ⟨rb, 0, none⟩)) ∧ w2.cell? ⟨rb, 4, none⟩ = some (.slice ao N cp) ∧ w2.cell? ⟨ax + 1, 0, none⟩ = some (.int .i64 leave))) (by kernel_rfl) (D0.out) (fun hHeld => ?_)
          refine wpAnyH_take (i := 0) (v := .int .i64 (t' : Nat)) rfl (by kernel_rfl) (by kernel_rfl) (by kernel_rfl) (fun _ _ _ h => by cases h.1) (Or.inl ⟨by kernel_rfl, by intro w2 hSw; obtain ⟨s1, s2, s3, s4, s5⟩ := hSw; go_simp⟩) hHeld ?_
          refine wpAnyH_take (i := 1) (v := .bool true) rfl (by kernel_rfl) (by kernel_rfl) (by kernel_rfl) (fun _ _ _ h => by cases h.1) (Or.inl ⟨by kernel_rfl, by intro w2 hSw; obtain ⟨s1, s2, s3, s4, s5⟩ := hSw; go_simp⟩) hHeld ?_
          refine wpAnyH_take (i := 2) (v := .bool true) rfl (by kernel_rfl) (by kernel_rfl) (by kernel_rfl) (fun _ _ _ h => by cases h.1) (Or.inl ⟨by kernel_rfl, by intro w2 hSw; obtain ⟨s1, s2, s3, s4, s5⟩ := hSw; go_simp⟩) hHeld ?_
          refine wpAnyH_take (i := 3) (v := .int .i64 (N : Nat)) rfl (by kernel_rfl) (by kernel_rfl) (by kernel_rfl) (fun _ _ _ h => by cases h.1) (Or.inl ⟨by kernel_rfl, by intro w2 hSw; obtain ⟨s1, s2, s3, s4, s5⟩ := hSw; go_simp⟩) hHeld ?_
          refine wpAnyH_take (i := 4) (v := .pointer (some ⟨rb, 0, none⟩)) rfl (by kernel_rfl) (by kernel_rfl) (by kernel_rfl) (fun _ _ _ h => by cases h.1) (Or.inl ⟨by kernel_rfl, by intro w2 hSw; obtain ⟨s1, s2, s3, s4, s5⟩ := hSw; go_simp⟩) hHeld ?_
          refine wpAnyH_take (i := 5) (v := .pointer (some ⟨rb, 0, none⟩)) rfl (by kernel_rfl) (by kernel_rfl) (by kernel_rfl) (fun _ _ _ h => by cases h.1) (Or.inl ⟨by kernel_rfl, by intro w2 hSw; obtain ⟨s1, s2, s3, s4, s5⟩ := hSw; go_simp⟩) hHeld ?_
          refine wpAnyH_take (i := 6) (v := .pointer (some ⟨rb, 4, none⟩)) rfl (by kernel_rfl) (by kernel_rfl) (by kernel_rfl) (fun _ _ _ h => by cases h.1) (Or.inl ⟨by kernel_rfl, by intro w2 hSw; obtain ⟨s1, s2, s3, s4, s5⟩ := hSw; go_simp⟩) hHeld ?_
          refine wpAnyH_take (i := 7) (v := .slice ao N cp) rfl (by kernel_rfl) (by kernel_rfl) (by kernel_rfl) (fun _ _ _ h => by cases h.1) (Or.inl ⟨by kernel_rfl, by intro w2 hSw; obtain ⟨s1, s2, s3, s4, s5⟩ := hSw; go_simp⟩) hHeld ?_
          refine wpAnyH_take (i := 8) (v := .int .i64 (N : Nat)) rfl (by kernel_rfl) (by kernel_rfl) (by kernel_rfl) (fun _ _ _ h => by cases h.1) (Or.inl ⟨by kernel_rfl, by intro w2 hSw; obtain ⟨s1, s2, s3, s4, s5⟩ := hSw; go_simp⟩) hHeld ?_
          refine wpAnyH_take (i := 9) (v := .bool false) rfl (by kernel_rfl) (by kernel_rfl) (by kernel_rfl) (fun _ _ _ h => by cases h.1) (Or.inl ⟨by kernel_rfl, by intro w2 hSw; obtain ⟨s1, s2, s3, s4, s5⟩ := hSw; go_simp⟩) hHeld ?_
          refine wpAnyH_take (i := 10) (v := .bool false) rfl (by kernel_rfl) (by kernel_rfl) (by kernel_rfl) (fun _ _ _ h => by cases h.1) (Or.inl ⟨by kernel_rfl, by intro w2 hSw; obtain ⟨s1, s2, s3, s4, s5⟩ := hSw; go_simp⟩) hHeld ?_
          refine wpAnyH_take (i := 11) (v := .bool false) rfl (by kernel_rfl) (by kernel_rfl) (by kernel_rfl) (fun _ _ _ h => by cases h.1) (Or.inl ⟨by kernel_rfl, by intro w2 hSw; obtain ⟨s1, s2, s3, s4, s5⟩ := hSw; go_simp⟩) hHeld ?_
          refine wpAnyH_take (i := 12) (v := .int .i64 (t' : Nat)) rfl (by kernel_rfl) (by kernel_rfl) (by kernel_rfl) (fun _ _ _ h => by cases h.1) (Or.inl ⟨by kernel_rfl, by intro w2 hSw; obtain ⟨s1, s2, s3, s4, s5⟩ := hSw; go_simp⟩) hHeld ?_
          refine wpAnyH_take (i := 13) (v := .bool false) rfl (by kernel_rfl) (by kernel_rfl) (by kernel_rfl) (fun _ _ _ h => by cases h.1) (Or.inl ⟨by kernel_rfl, by intro w2 hSw; obtain ⟨s1, s2, s3, s4, s5⟩ := hSw; go_simp⟩) hHeld ?_
          refine wpAnyH_take (i := 14) (v := .bool false) rfl (by kernel_rfl) (by kernel_rfl) (by kernel_rfl) (fun _ _ _ h => by cases h.1) (Or.inl ⟨by kernel_rfl, by intro w2 hSw; obtain ⟨s1, s2, s3, s4, s5⟩ := hSw; go_simp⟩) hHeld ?_
          refine wpAnyH_take (i := 15) (v := undef) rfl (by kernel_rfl) (by kernel_rfl) (by kernel_rfl) (fun _ _ _ h => by cases h.1) (Or.inr ⟨by kernel_rfl, rfl⟩) hHeld ?_
          refine wpAnyH_take (i := 16) (v := undef) rfl (by kernel_rfl) (by kernel_rfl) (by kernel_rfl) (fun _ _ _ h => by cases h.1) (Or.inr ⟨by kernel_rfl, rfl⟩) hHeld ?_
          refine wpAnyH_take (i := 17) (v := undef) rfl (by kernel_rfl) (by kernel_rfl) (by kernel_rfl) (fun _ _ _ h => by cases h.1) (Or.inr ⟨by kernel_rfl, rfl⟩) hHeld ?_
          refine wpAnyH_take (i := 18) (v := undef) rfl (by kernel_rfl) (by kernel_rfl) (by kernel_rfl) (fun _ _ _ h => by cases h.1) (Or.inr ⟨by kernel_rfl, rfl⟩) hHeld ?_
          refine wpAnyH_take (i := 19) (v := undef) rfl (by kernel_rfl) (by kernel_rfl) (by kernel_rfl) (fun _ _ _ h => by cases h.1) (Or.inr ⟨by kernel_rfl, rfl⟩) hHeld ?_
          refine wpAnyH_take (i := 20) (v := undef) rfl (by kernel_rfl) (by kernel_rfl) (by kernel_rfl) (fun _ _ _ h => by cases h.1) (Or.inr ⟨by kernel_rfl, rfl⟩) hHeld ?_
          refine wpAnyH_take (i := 21) (v := undef) rfl (by kernel_rfl) (by kernel_rfl) (by kernel_rfl) (fun _ _ _ h => by cases h.1) (Or.inr ⟨by kernel_rfl, rfl⟩) hHeld ?_
          refine wpAnyH_take (i := 22) (v := .bool false) rfl (by kernel_rfl) (by kernel_rfl) (by kernel_rfl) (fun _ _ _ h => by cases h.1) (Or.inl ⟨by kernel_rfl, by intro w2 hSw; obtain ⟨s1, s2, s3, s4, s5⟩ := hSw; go_simp⟩) hHeld ?_
          refine wpAnyH_take (i := 23) (v := .bool false) rfl (by kernel_rfl) (by kernel_rfl) (by kernel_rfl) (fun _ _ _ h => by cases h.1) (Or.inl ⟨by kernel_rfl, by intro w2 hSw; obtain ⟨s1, s2, s3, s4, s5⟩ := hSw; go_simp⟩) hHeld ?_
          refine wpAnyH_take (i := 24) (v := undef) rfl (by kernel_rfl) (by kernel_rfl) (by kernel_rfl) (fun _ _ _ h => by cases h.1) (Or.inr ⟨by kernel_rfl, rfl⟩) hHeld ?_
          refine wpAnyH_take (i := 25) (v := undef) rfl (by kernel_rfl) (by kernel_rfl) (by kernel_rfl) (fun _ _ _ h => by cases h.1) (Or.inr ⟨by kernel_rfl, rfl⟩) hHeld ?_
          refine wpAnyH_take (i := 26) (v := undef) rfl (by kernel_rfl) (by kernel_rfl) (by kernel_rfl) (fun _ _ _ h => by cases h.1) (Or.inr ⟨by kernel_rfl, rfl⟩) hHeld ?_
          refine wpAnyH_take (i := 27) (v := .bool false) rfl (by kernel_rfl) (by kernel_rfl) (by kernel_rfl) (fun _ _ _ h => by cases h.1) (Or.inl ⟨by kernel_rfl, by intro w2 hSw; obtain ⟨s1, s2, s3, s4, s5⟩ := hSw; go_simp⟩) hHeld ?_
          refine wpAnyH_take (i := 28) (v := .bool false) rfl (by kernel_rfl) (by kernel_rfl) (by kernel_rfl) (fun _ _ _ h => by cases h.1) (Or.inl ⟨by kernel_rfl, by intro w2 hSw; obtain ⟨s1, s2, s3, s4, s5⟩ := hSw; go_simp⟩) hHeld ?_
          refine wpAnyH_done (by kernel_rfl) ?_ _
          exact ⟨rfl, by kernel_rfl, rfl⟩
        rintro e a' V2 ⟨rfl, rfl, rfl⟩
        gi_wp2
        refine ⟨⟨t' + 1, by omega, V.heap.size, D :: Ds, by simp [HDS.out], by have := IV.out.lt; omega, ⟨rfl, rfl⟩, (LV.out.alloc _).more ((Below.heap_alloc _ _ _ (lt_of_block HK.out)).trans HK.out) (fun E hE => by have := DL.out E hE; have := HNB.out; have := HS1.out; omega) (by have := HNB.out; have := HABW.out; have := HS1.out; omega), KV.out.trans ((Kp.drew _ _).trans (Kp.alloc _ _ _)), IV.out.keep ((Kp.drew _ _).trans (Kp.alloc _ _ _)), ?_⟩, by simp [marks, HDS.out]; omega⟩
        rw [show (((t' + 1 : Nat)) : Int) = (t' : Int) + 1 by simp]
        exact heap_alloc_new V (.cells #[.int .i64 ((t' : Int) + 1)] 3)
    case stop =>
      rintro D cc pre V hD hpre ⟨rfl, htz, hi1, hi2⟩ hK
      have kV := HKP.out.trans (Kp.of_below hi2)
      have BB := BX.out.keep kV
      have v1 := cell_one BB.bP
      have v2 := BB.r.c4
      have v3 := cell_one BB.bL
      have c8 := cell_one ((hi2.block tq (lt_of_block HTU.out)).trans HTU.out)
      have c9 := cell_one hi1
      have KV := hid kV
      have IV := hid (HIT.out.keep (Kp.of_below hi2))
      have LV := hid (show Live ab V Ds from ⟨fun E hE => (hi2.block E (lt_of_block (HLV.out.1 E hE))).trans (HLV.out.1 E hE), HLV.out.2⟩)
      have HK := hid hK
      clear kV BB hi1 hi2 hK
      have tz : ((t' : Int) == 0) = true := by rw [htz]; rfl
      have tz1 : ((t' : Int) == 1) = false := by rw [htz]; rfl
      have tl : (leave != leave) = false := by simp
      clear htz
      by_cases hll : leave = (N : Int)
      · have tn : (leave != (N : Int)) = false := by simp [hll]
        clear hll
        gi_wp2_with fail
        have hmx : Try.prog.follows .mixedOrders = true := by kernel_rfl
        have D0 := hid (show (fun w2 : World => w2.cell? ⟨tq, 0, none⟩ = some (.int .i64 (t' : Nat)) ∧ w2.cell? ⟨nb, 0, none⟩ = some (.int .i64 leave) ∧ w2.cell? ⟨ax, 0, none⟩ = some (.pointer (some ⟨rb, 0, none⟩)) ∧ w2.cell? ⟨rb, 4, none⟩ = some (.slice ao N cp) ∧ w2.cell? ⟨ax + 1, 0, none⟩ = some (.int .i64 leave)) V.drew from ⟨c8, c9, v1, v2, v3⟩)
        refine Code.wpIn_mono (Q := fun e a' w' => e = .normal ∧ a' = { tmps := #[.pointer (some ⟨cb, 0, none⟩), .pointer (some ⟨rb, 0, none⟩), .int .i64 leave, undef, .pointer (some ⟨ax, 0, none⟩), .pointer (some ⟨ax + 1, 0, none⟩), .pointer (some ⟨ax + 2, 0, none⟩), itc ab, .pointer (some ⟨tq, 0, none⟩), .pointer (some ⟨nb, 0, none⟩), undef, .pointer (some ⟨cb, 0, none⟩), .bool A, .pointer (some ⟨rb, 0, none⟩), .pointer (some ⟨rb, 0, none⟩), .pointer (some ⟨rb, 0, none⟩), .bool A, .bool false, .bool false, .pointer (some ⟨cb, 0, none⟩), .bool E, .pointer (some ⟨rb, 0, none⟩), .pointer (some ⟨rb, 0, none⟩), .pointer (some ⟨rb, 1, none⟩), .bool NE, .bool false, .bool false, .bool false, .pointer (some ⟨cb, 0, none⟩), .bool O, .pointer (some ⟨rb, 0, none⟩), .pointer (some ⟨rb, 0, none⟩), .pointer (some ⟨rb, 2, none⟩), .bool O, .bool false, .bool false, .bool false, .pointer (some ⟨cb, 0, none⟩), .bool U, .pointer (some ⟨rb, 0, none⟩), .pointer (some ⟨rb, 0, none⟩), .pointer (some ⟨rb, 3, none⟩), .bool U, .bool false, .bool false, .bool false, .pointer (some ⟨cb, 0, none⟩), .bool P1, .pointer (some ⟨rb, 0, none⟩), .bool P1, .bool false, .bool false, .bool false, .pointer (some ⟨cb, 0, none⟩), .bool P2, .pointer (some ⟨rb, 0, none⟩), .bool P2, .bool false, .bool false, .bool false, .pointer (some ⟨cb, 0, none⟩), .int .i64 (N : Nat), .pointer (some ⟨rb, 0, none⟩), .pointer (some ⟨rb, 0, none⟩), .pointer (some ⟨rb, 4, none⟩), .slice ao N cp, .int .i64 (N : Nat), .bool false, .bool false, .pointer (some ⟨cb, 0, none⟩), itc ab, itc ab, .bool false, .int .i64 (t' : Nat), .bool true, x75, x76, itc ab, undef, undef, undef, undef, undef, undef, undef, undef, undef, undef, undef, undef, undef, undef, undef, undef, undef, undef, undef, undef, undef, undef, undef, undef, undef, undef, undef, undef, undef, undef, undef, undef, undef, undef, undef, .int .i64 (t' : Nat), .bool false, .bool false, undef, undef, undef, undef, undef, undef, undef, .bool false, .bool false, .int .i64 (t' : Nat), .bool true, .bool true, .int .i64 leave, .pointer (some ⟨rb, 0, none⟩), .pointer (some ⟨rb, 0, none⟩), .pointer (some ⟨rb, 4, none⟩), .slice ao N cp, .int .i64 (N : Nat), .bool false, .bool false, .bool false, undef, undef, undef, .bool false, .bool false, x142], defers := marks (D :: Ds) } ∧ w' = V.drew) ?_ ?_
        rotate_left
        · refine wpIn_wide.2 ?_
          refine wp_region_held_drew (S := (fun w2 : World => w2.cell? ⟨tq, 0, none⟩ = some (.int .i64 (t' : Nat)) ∧ w2.cell? ⟨nb, 0, none⟩ = some (.int .i64 leave) ∧ w2.cell? ⟨ax, 0, none⟩ = some (.pointer (some ⟨rb, 0, none⟩)) ∧ w2.cell? ⟨rb, 4, none⟩ = some (.slice ao N cp) ∧ w2.cell? ⟨ax + 1, 0, none⟩ = some (.int .i64 leave))) (by kernel_rfl) (D0.out) (fun hHeld => ?_)
          refine wpAnyH_take (i := 0) (v := .int .i64 (t' : Nat)) rfl (by kernel_rfl) (by kernel_rfl) (by kernel_rfl) (fun _ _ _ h => by cases h.1) (Or.inl ⟨by kernel_rfl, by intro w2 hSw; obtain ⟨s1, s2, s3, s4, s5⟩ := hSw; go_simp⟩) hHeld ?_
          refine wpAnyH_take (i := 1) (v := .bool false) rfl (by kernel_rfl) (by kernel_rfl) (by kernel_rfl) (fun _ _ _ h => by cases h.1) (Or.inl ⟨by kernel_rfl, by intro w2 hSw; obtain ⟨s1, s2, s3, s4, s5⟩ := hSw; go_simp⟩) hHeld ?_
          refine wpAnyH_take (i := 2) (v := .bool false) rfl (by kernel_rfl) (by kernel_rfl) (by kernel_rfl) (fun _ _ _ h => by cases h.1) (Or.inl ⟨by kernel_rfl, by intro w2 hSw; obtain ⟨s1, s2, s3, s4, s5⟩ := hSw; go_simp⟩) hHeld ?_
          refine wpAnyH_take (i := 3) (v := undef) rfl (by kernel_rfl) (by kernel_rfl) (by kernel_rfl) (fun _ _ _ h => by cases h.1) (Or.inr ⟨by kernel_rfl, rfl⟩) hHeld ?_
          refine wpAnyH_take (i := 4) (v := undef) rfl (by kernel_rfl) (by kernel_rfl) (by kernel_rfl) (fun _ _ _ h => by cases h.1) (Or.inr ⟨by kernel_rfl, rfl⟩) hHeld ?_
          refine wpAnyH_take (i := 5) (v := undef) rfl (by kernel_rfl) (by kernel_rfl) (by kernel_rfl) (fun _ _ _ h => by cases h.1) (Or.inr ⟨by kernel_rfl, rfl⟩) hHeld ?_
          refine wpAnyH_take (i := 6) (v := undef) rfl (by kernel_rfl) (by kernel_rfl) (by kernel_rfl) (fun _ _ _ h => by cases h.1) (Or.inr ⟨by kernel_rfl, rfl⟩) hHeld ?_
          refine wpAnyH_take (i := 7) (v := undef) rfl (by kernel_rfl) (by kernel_rfl) (by kernel_rfl) (fun _ _ _ h => by cases h.1) (Or.inr ⟨by kernel_rfl, rfl⟩) hHeld ?_
          refine wpAnyH_take (i := 8) (v := undef) rfl (by kernel_rfl) (by kernel_rfl) (by kernel_rfl) (fun _ _ _ h => by cases h.1) (Or.inr ⟨by kernel_rfl, rfl⟩) hHeld ?_
          refine wpAnyH_take (i := 9) (v := undef) rfl (by kernel_rfl) (by kernel_rfl) (by kernel_rfl) (fun _ _ _ h => by cases h.1) (Or.inr ⟨by kernel_rfl, rfl⟩) hHeld ?_
          refine wpAnyH_take (i := 10) (v := .bool false) rfl (by kernel_rfl) (by kernel_rfl) (by kernel_rfl) (fun _ _ _ h => by cases h.1) (Or.inl ⟨by kernel_rfl, by intro w2 hSw; obtain ⟨s1, s2, s3, s4, s5⟩ := hSw; go_simp⟩) hHeld ?_
          refine wpAnyH_take (i := 11) (v := .bool false) rfl (by kernel_rfl) (by kernel_rfl) (by kernel_rfl) (fun _ _ _ h => by cases h.1) (Or.inl ⟨by kernel_rfl, by intro w2 hSw; obtain ⟨s1, s2, s3, s4, s5⟩ := hSw; go_simp⟩) hHeld ?_
          refine wpAnyH_take (i := 12) (v := .int .i64 (t' : Nat)) rfl (by kernel_rfl) (by kernel_rfl) (by kernel_rfl) (fun _ _ _ h => by cases h.1) (Or.inl ⟨by kernel_rfl, by intro w2 hSw; obtain ⟨s1, s2, s3, s4, s5⟩ := hSw; go_simp⟩) hHeld ?_
          refine wpAnyH_take (i := 13) (v := .bool true) rfl (by kernel_rfl) (by kernel_rfl) (by kernel_rfl) (fun _ _ _ h => by cases h.1) (Or.inl ⟨by kernel_rfl, by intro w2 hSw; obtain ⟨s1, s2, s3, s4, s5⟩ := hSw; go_simp⟩) hHeld ?_
          refine wpAnyH_take (i := 14) (v := .bool true) rfl (by kernel_rfl) (by kernel_rfl) (by kernel_rfl) (fun _ _ _ h => by cases h.1) (Or.inl ⟨by kernel_rfl, by intro w2 hSw; obtain ⟨s1, s2, s3, s4, s5⟩ := hSw; go_simp⟩) hHeld ?_
          refine wpAnyH_take (i := 15) (v := .int .i64 leave) rfl (by kernel_rfl) (by kernel_rfl) (by kernel_rfl) (fun _ _ _ h => by cases h.1) (Or.inl ⟨by kernel_rfl, by intro w2 hSw; obtain ⟨s1, s2, s3, s4, s5⟩ := hSw; go_simp⟩) hHeld ?_
          refine wpAnyH_take (i := 16) (v := .pointer (some ⟨rb, 0, none⟩)) rfl (by kernel_rfl) (by kernel_rfl) (by kernel_rfl) (fun _ _ _ h => by cases h.1) (Or.inl ⟨by kernel_rfl, by intro w2 hSw; obtain ⟨s1, s2, s3, s4, s5⟩ := hSw; go_simp⟩) hHeld ?_
          refine wpAnyH_take (i := 17) (v := .pointer (some ⟨rb, 0, none⟩)) rfl (by kernel_rfl) (by kernel_rfl) (by kernel_rfl) (fun _ _ _ h => by cases h.1) (Or.inl ⟨by kernel_rfl, by intro w2 hSw; obtain ⟨s1, s2, s3, s4, s5⟩ := hSw; go_simp⟩) hHeld ?_
          refine wpAnyH_take (i := 18) (v := .pointer (some ⟨rb, 4, none⟩)) rfl (by kernel_rfl) (by kernel_rfl) (by kernel_rfl) (fun _ _ _ h => by cases h.1) (Or.inl ⟨by kernel_rfl, by intro w2 hSw; obtain ⟨s1, s2, s3, s4, s5⟩ := hSw; go_simp⟩) hHeld ?_
          refine wpAnyH_take (i := 19) (v := .slice ao N cp) rfl (by kernel_rfl) (by kernel_rfl) (by kernel_rfl) (fun _ _ _ h => by cases h.1) (Or.inl ⟨by kernel_rfl, by intro w2 hSw; obtain ⟨s1, s2, s3, s4, s5⟩ := hSw; go_simp⟩) hHeld ?_
          refine wpAnyH_take (i := 20) (v := .int .i64 (N : Nat)) rfl (by kernel_rfl) (by kernel_rfl) (by kernel_rfl) (fun _ _ _ h => by cases h.1) (Or.inl ⟨by kernel_rfl, by intro w2 hSw; obtain ⟨s1, s2, s3, s4, s5⟩ := hSw; go_simp⟩) hHeld ?_
          refine wpAnyH_take (i := 21) (v := .bool false) rfl (by kernel_rfl) (by kernel_rfl) (by kernel_rfl) (fun _ _ _ h => by cases h.1) (Or.inl ⟨by kernel_rfl, by intro w2 hSw; obtain ⟨s1, s2, s3, s4, s5⟩ := hSw; go_simp⟩) hHeld ?_
          refine wpAnyH_take (i := 22) (v := .bool false) rfl (by kernel_rfl) (by kernel_rfl) (by kernel_rfl) (fun _ _ _ h => by cases h.1) (Or.inl ⟨by kernel_rfl, by intro w2 hSw; obtain ⟨s1, s2, s3, s4, s5⟩ := hSw; go_simp⟩) hHeld ?_
          refine wpAnyH_take (i := 23) (v := .bool false) rfl (by kernel_rfl) (by kernel_rfl) (by kernel_rfl) (fun _ _ _ h => by cases h.1) (Or.inl ⟨by kernel_rfl, by intro w2 hSw; obtain ⟨s1, s2, s3, s4, s5⟩ := hSw; go_simp⟩) hHeld ?_
          refine wpAnyH_take (i := 24) (v := undef) rfl (by kernel_rfl) (by kernel_rfl) (by kernel_rfl) (fun _ _ _ h => by cases h.1) (Or.inr ⟨by kernel_rfl, rfl⟩) hHeld ?_
          refine wpAnyH_take (i := 25) (v := undef) rfl (by kernel_rfl) (by kernel_rfl) (by kernel_rfl) (fun _ _ _ h => by cases h.1) (Or.inr ⟨by kernel_rfl, rfl⟩) hHeld ?_
          refine wpAnyH_take (i := 26) (v := undef) rfl (by kernel_rfl) (by kernel_rfl) (by kernel_rfl) (fun _ _ _ h => by cases h.1) (Or.inr ⟨by kernel_rfl, rfl⟩) hHeld ?_
          refine wpAnyH_take (i := 27) (v := .bool false) rfl (by kernel_rfl) (by kernel_rfl) (by kernel_rfl) (fun _ _ _ h => by cases h.1) (Or.inl ⟨by kernel_rfl, by intro w2 hSw; obtain ⟨s1, s2, s3, s4, s5⟩ := hSw; go_simp⟩) hHeld ?_
          refine wpAnyH_take (i := 28) (v := .bool false) rfl (by kernel_rfl) (by kernel_rfl) (by kernel_rfl) (fun _ _ _ h => by cases h.1) (Or.inl ⟨by kernel_rfl, by intro w2 hSw; obtain ⟨s1, s2, s3, s4, s5⟩ := hSw; go_simp⟩) hHeld ?_
          refine wpAnyH_done (by kernel_rfl) ?_ _
          exact ⟨rfl, by kernel_rfl, rfl⟩
        rintro e a' V2 ⟨rfl, rfl, rfl⟩
        gi_wp2
        refine ⟨⟨t' + 1, by omega, V.heap.size, D :: Ds, by simp [HDS.out], by have := IV.out.lt; omega, ⟨rfl, rfl⟩, (LV.out.alloc _).more ((Below.heap_alloc _ _ _ (lt_of_block HK.out)).trans HK.out) (fun E hE => by have := DL.out E hE; have := HNB.out; have := HS1.out; omega) (by have := HNB.out; have := HABW.out; have := HS1.out; omega), KV.out.trans ((Kp.drew _ _).trans (Kp.alloc _ _ _)), IV.out.keep ((Kp.drew _ _).trans (Kp.alloc _ _ _)), ?_⟩, by simp [marks, HDS.out]; omega⟩
        rw [show (((t' + 1 : Nat)) : Int) = (t' : Int) + 1 by simp]
        exact heap_alloc_new V (.cells #[.int .i64 ((t' : Int) + 1)] 3)
      · have tn : (leave != (N : Int)) = true := by simp [hll]
        clear hll
        gi_wp2_with fail
        have hmx : Try.prog.follows .mixedOrders = true := by kernel_rfl
        have D0 := hid (show (fun w2 : World => w2.cell? ⟨tq, 0, none⟩ = some (.int .i64 (t' : Nat)) ∧ w2.cell? ⟨nb, 0, none⟩ = some (.int .i64 leave) ∧ w2.cell? ⟨ax, 0, none⟩ = some (.pointer (some ⟨rb, 0, none⟩)) ∧ w2.cell? ⟨rb, 4, none⟩ = some (.slice ao N cp) ∧ w2.cell? ⟨ax + 1, 0, none⟩ = some (.int .i64 leave)) V.drew from ⟨c8, c9, v1, v2, v3⟩)
        refine Code.wpIn_mono (Q := fun e a' w' => e = .normal ∧ a' = { tmps := #[.pointer (some ⟨cb, 0, none⟩), .pointer (some ⟨rb, 0, none⟩), .int .i64 leave, undef, .pointer (some ⟨ax, 0, none⟩), .pointer (some ⟨ax + 1, 0, none⟩), .pointer (some ⟨ax + 2, 0, none⟩), itc ab, .pointer (some ⟨tq, 0, none⟩), .pointer (some ⟨nb, 0, none⟩), undef, .pointer (some ⟨cb, 0, none⟩), .bool A, .pointer (some ⟨rb, 0, none⟩), .pointer (some ⟨rb, 0, none⟩), .pointer (some ⟨rb, 0, none⟩), .bool A, .bool false, .bool false, .pointer (some ⟨cb, 0, none⟩), .bool E, .pointer (some ⟨rb, 0, none⟩), .pointer (some ⟨rb, 0, none⟩), .pointer (some ⟨rb, 1, none⟩), .bool NE, .bool false, .bool false, .bool false, .pointer (some ⟨cb, 0, none⟩), .bool O, .pointer (some ⟨rb, 0, none⟩), .pointer (some ⟨rb, 0, none⟩), .pointer (some ⟨rb, 2, none⟩), .bool O, .bool false, .bool false, .bool false, .pointer (some ⟨cb, 0, none⟩), .bool U, .pointer (some ⟨rb, 0, none⟩), .pointer (some ⟨rb, 0, none⟩), .pointer (some ⟨rb, 3, none⟩), .bool U, .bool false, .bool false, .bool false, .pointer (some ⟨cb, 0, none⟩), .bool P1, .pointer (some ⟨rb, 0, none⟩), .bool P1, .bool false, .bool false, .bool false, .pointer (some ⟨cb, 0, none⟩), .bool P2, .pointer (some ⟨rb, 0, none⟩), .bool P2, .bool false, .bool false, .bool false, .pointer (some ⟨cb, 0, none⟩), .int .i64 (N : Nat), .pointer (some ⟨rb, 0, none⟩), .pointer (some ⟨rb, 0, none⟩), .pointer (some ⟨rb, 4, none⟩), .slice ao N cp, .int .i64 (N : Nat), .bool false, .bool false, .pointer (some ⟨cb, 0, none⟩), itc ab, itc ab, .bool false, .int .i64 (t' : Nat), .bool true, x75, x76, itc ab, undef, undef, undef, undef, undef, undef, undef, undef, undef, undef, undef, undef, undef, undef, undef, undef, undef, undef, undef, undef, undef, undef, undef, undef, undef, undef, undef, undef, undef, undef, undef, undef, undef, undef, undef, .int .i64 (t' : Nat), .bool false, .bool false, undef, undef, undef, undef, undef, undef, undef, .bool false, .bool false, .int .i64 (t' : Nat), .bool true, .bool true, .int .i64 leave, .pointer (some ⟨rb, 0, none⟩), .pointer (some ⟨rb, 0, none⟩), .pointer (some ⟨rb, 4, none⟩), .slice ao N cp, .int .i64 (N : Nat), .bool true, .bool true, .bool true, .int .i64 leave, .int .i64 leave, .bool false, .bool false, .bool false, x142], defers := marks (D :: Ds) } ∧ w' = V.drew) ?_ ?_
        rotate_left
        · refine wpIn_wide.2 ?_
          refine wp_region_held_drew (S := (fun w2 : World => w2.cell? ⟨tq, 0, none⟩ = some (.int .i64 (t' : Nat)) ∧ w2.cell? ⟨nb, 0, none⟩ = some (.int .i64 leave) ∧ w2.cell? ⟨ax, 0, none⟩ = some (.pointer (some ⟨rb, 0, none⟩)) ∧ w2.cell? ⟨rb, 4, none⟩ = some (.slice ao N cp) ∧ w2.cell? ⟨ax + 1, 0, none⟩ = some (.int .i64 leave))) (by kernel_rfl) (D0.out) (fun hHeld => ?_)
          refine wpAnyH_take (i := 0) (v := .int .i64 (t' : Nat)) rfl (by kernel_rfl) (by kernel_rfl) (by kernel_rfl) (fun _ _ _ h => by cases h.1) (Or.inl ⟨by kernel_rfl, by intro w2 hSw; obtain ⟨s1, s2, s3, s4, s5⟩ := hSw; go_simp⟩) hHeld ?_
          refine wpAnyH_take (i := 1) (v := .bool false) rfl (by kernel_rfl) (by kernel_rfl) (by kernel_rfl) (fun _ _ _ h => by cases h.1) (Or.inl ⟨by kernel_rfl, by intro w2 hSw; obtain ⟨s1, s2, s3, s4, s5⟩ := hSw; go_simp⟩) hHeld ?_
          refine wpAnyH_take (i := 2) (v := .bool false) rfl (by kernel_rfl) (by kernel_rfl) (by kernel_rfl) (fun _ _ _ h => by cases h.1) (Or.inl ⟨by kernel_rfl, by intro w2 hSw; obtain ⟨s1, s2, s3, s4, s5⟩ := hSw; go_simp⟩) hHeld ?_
          refine wpAnyH_take (i := 3) (v := undef) rfl (by kernel_rfl) (by kernel_rfl) (by kernel_rfl) (fun _ _ _ h => by cases h.1) (Or.inr ⟨by kernel_rfl, rfl⟩) hHeld ?_
          refine wpAnyH_take (i := 4) (v := undef) rfl (by kernel_rfl) (by kernel_rfl) (by kernel_rfl) (fun _ _ _ h => by cases h.1) (Or.inr ⟨by kernel_rfl, rfl⟩) hHeld ?_
          refine wpAnyH_take (i := 5) (v := undef) rfl (by kernel_rfl) (by kernel_rfl) (by kernel_rfl) (fun _ _ _ h => by cases h.1) (Or.inr ⟨by kernel_rfl, rfl⟩) hHeld ?_
          refine wpAnyH_take (i := 6) (v := undef) rfl (by kernel_rfl) (by kernel_rfl) (by kernel_rfl) (fun _ _ _ h => by cases h.1) (Or.inr ⟨by kernel_rfl, rfl⟩) hHeld ?_
          refine wpAnyH_take (i := 7) (v := undef) rfl (by kernel_rfl) (by kernel_rfl) (by kernel_rfl) (fun _ _ _ h => by cases h.1) (Or.inr ⟨by kernel_rfl, rfl⟩) hHeld ?_
          refine wpAnyH_take (i := 8) (v := undef) rfl (by kernel_rfl) (by kernel_rfl) (by kernel_rfl) (fun _ _ _ h => by cases h.1) (Or.inr ⟨by kernel_rfl, rfl⟩) hHeld ?_
          refine wpAnyH_take (i := 9) (v := undef) rfl (by kernel_rfl) (by kernel_rfl) (by kernel_rfl) (fun _ _ _ h => by cases h.1) (Or.inr ⟨by kernel_rfl, rfl⟩) hHeld ?_
          refine wpAnyH_take (i := 10) (v := .bool false) rfl (by kernel_rfl) (by kernel_rfl) (by kernel_rfl) (fun _ _ _ h => by cases h.1) (Or.inl ⟨by kernel_rfl, by intro w2 hSw; obtain ⟨s1, s2, s3, s4, s5⟩ := hSw; go_simp⟩) hHeld ?_
          refine wpAnyH_take (i := 11) (v := .bool false) rfl (by kernel_rfl) (by kernel_rfl) (by kernel_rfl) (fun _ _ _ h => by cases h.1) (Or.inl ⟨by kernel_rfl, by intro w2 hSw; obtain ⟨s1, s2, s3, s4, s5⟩ := hSw; go_simp⟩) hHeld ?_
          refine wpAnyH_take (i := 12) (v := .int .i64 (t' : Nat)) rfl (by kernel_rfl) (by kernel_rfl) (by kernel_rfl) (fun _ _ _ h => by cases h.1) (Or.inl ⟨by kernel_rfl, by intro w2 hSw; obtain ⟨s1, s2, s3, s4, s5⟩ := hSw; go_simp⟩) hHeld ?_
          refine wpAnyH_take (i := 13) (v := .bool true) rfl (by kernel_rfl) (by kernel_rfl) (by kernel_rfl) (fun _ _ _ h => by cases h.1) (Or.inl ⟨by kernel_rfl, by intro w2 hSw; obtain ⟨s1, s2, s3, s4, s5⟩ := hSw; go_simp⟩) hHeld ?_
          refine wpAnyH_take (i := 14) (v := .bool true) rfl (by kernel_rfl) (by kernel_rfl) (by kernel_rfl) (fun _ _ _ h => by cases h.1) (Or.inl ⟨by kernel_rfl, by intro w2 hSw; obtain ⟨s1, s2, s3, s4, s5⟩ := hSw; go_simp⟩) hHeld ?_
          refine wpAnyH_take (i := 15) (v := .int .i64 leave) rfl (by kernel_rfl) (by kernel_rfl) (by kernel_rfl) (fun _ _ _ h => by cases h.1) (Or.inl ⟨by kernel_rfl, by intro w2 hSw; obtain ⟨s1, s2, s3, s4, s5⟩ := hSw; go_simp⟩) hHeld ?_
          refine wpAnyH_take (i := 16) (v := .pointer (some ⟨rb, 0, none⟩)) rfl (by kernel_rfl) (by kernel_rfl) (by kernel_rfl) (fun _ _ _ h => by cases h.1) (Or.inl ⟨by kernel_rfl, by intro w2 hSw; obtain ⟨s1, s2, s3, s4, s5⟩ := hSw; go_simp⟩) hHeld ?_
          refine wpAnyH_take (i := 17) (v := .pointer (some ⟨rb, 0, none⟩)) rfl (by kernel_rfl) (by kernel_rfl) (by kernel_rfl) (fun _ _ _ h => by cases h.1) (Or.inl ⟨by kernel_rfl, by intro w2 hSw; obtain ⟨s1, s2, s3, s4, s5⟩ := hSw; go_simp⟩) hHeld ?_
          refine wpAnyH_take (i := 18) (v := .pointer (some ⟨rb, 4, none⟩)) rfl (by kernel_rfl) (by kernel_rfl) (by kernel_rfl) (fun _ _ _ h => by cases h.1) (Or.inl ⟨by kernel_rfl, by intro w2 hSw; obtain ⟨s1, s2, s3, s4, s5⟩ := hSw; go_simp⟩) hHeld ?_
          refine wpAnyH_take (i := 19) (v := .slice ao N cp) rfl (by kernel_rfl) (by kernel_rfl) (by kernel_rfl) (fun _ _ _ h => by cases h.1) (Or.inl ⟨by kernel_rfl, by intro w2 hSw; obtain ⟨s1, s2, s3, s4, s5⟩ := hSw; go_simp⟩) hHeld ?_
          refine wpAnyH_take (i := 20) (v := .int .i64 (N : Nat)) rfl (by kernel_rfl) (by kernel_rfl) (by kernel_rfl) (fun _ _ _ h => by cases h.1) (Or.inl ⟨by kernel_rfl, by intro w2 hSw; obtain ⟨s1, s2, s3, s4, s5⟩ := hSw; go_simp⟩) hHeld ?_
          refine wpAnyH_take (i := 21) (v := .bool true) rfl (by kernel_rfl) (by kernel_rfl) (by kernel_rfl) (fun _ _ _ h => by cases h.1) (Or.inl ⟨by kernel_rfl, by intro w2 hSw; obtain ⟨s1, s2, s3, s4, s5⟩ := hSw; go_simp⟩) hHeld ?_
          refine wpAnyH_take (i := 22) (v := .bool true) rfl (by kernel_rfl) (by kernel_rfl) (by kernel_rfl) (fun _ _ _ h => by cases h.1) (Or.inl ⟨by kernel_rfl, by intro w2 hSw; obtain ⟨s1, s2, s3, s4, s5⟩ := hSw; go_simp⟩) hHeld ?_
          refine wpAnyH_take (i := 23) (v := .bool true) rfl (by kernel_rfl) (by kernel_rfl) (by kernel_rfl) (fun _ _ _ h => by cases h.1) (Or.inl ⟨by kernel_rfl, by intro w2 hSw; obtain ⟨s1, s2, s3, s4, s5⟩ := hSw; go_simp⟩) hHeld ?_
          refine wpAnyH_take (i := 24) (v := .int .i64 leave) rfl (by kernel_rfl) (by kernel_rfl) (by kernel_rfl) (fun _ _ _ h => by cases h.1) (Or.inl ⟨by kernel_rfl, by intro w2 hSw; obtain ⟨s1, s2, s3, s4, s5⟩ := hSw; go_simp⟩) hHeld ?_
          refine wpAnyH_take (i := 25) (v := .int .i64 leave) rfl (by kernel_rfl) (by kernel_rfl) (by kernel_rfl) (fun _ _ _ h => by cases h.1) (Or.inl ⟨by kernel_rfl, by intro w2 hSw; obtain ⟨s1, s2, s3, s4, s5⟩ := hSw; go_simp⟩) hHeld ?_
          refine wpAnyH_take (i := 26) (v := .bool false) rfl (by kernel_rfl) (by kernel_rfl) (by kernel_rfl) (fun _ _ _ h => by cases h.1) (Or.inl ⟨by kernel_rfl, by intro w2 hSw; obtain ⟨s1, s2, s3, s4, s5⟩ := hSw; go_simp⟩) hHeld ?_
          refine wpAnyH_take (i := 27) (v := .bool false) rfl (by kernel_rfl) (by kernel_rfl) (by kernel_rfl) (fun _ _ _ h => by cases h.1) (Or.inl ⟨by kernel_rfl, by intro w2 hSw; obtain ⟨s1, s2, s3, s4, s5⟩ := hSw; go_simp⟩) hHeld ?_
          refine wpAnyH_take (i := 28) (v := .bool false) rfl (by kernel_rfl) (by kernel_rfl) (by kernel_rfl) (fun _ _ _ h => by cases h.1) (Or.inl ⟨by kernel_rfl, by intro w2 hSw; obtain ⟨s1, s2, s3, s4, s5⟩ := hSw; go_simp⟩) hHeld ?_
          refine wpAnyH_done (by kernel_rfl) ?_ _
          exact ⟨rfl, by kernel_rfl, rfl⟩
        rintro e a' V2 ⟨rfl, rfl, rfl⟩
        gi_wp2
        refine ⟨⟨t' + 1, by omega, V.heap.size, D :: Ds, by simp [HDS.out], by have := IV.out.lt; omega, ⟨rfl, rfl⟩, (LV.out.alloc _).more ((Below.heap_alloc _ _ _ (lt_of_block HK.out)).trans HK.out) (fun E hE => by have := DL.out E hE; have := HNB.out; have := HS1.out; omega) (by have := HNB.out; have := HABW.out; have := HS1.out; omega), KV.out.trans ((Kp.drew _ _).trans (Kp.alloc _ _ _)), IV.out.keep ((Kp.drew _ _).trans (Kp.alloc _ _ _)), ?_⟩, by simp [marks, HDS.out]; omega⟩
        rw [show (((t' + 1 : Nat)) : Int) = (t' : Int) + 1 by simp]
        exact heap_alloc_new V (.cells #[.int .i64 ((t' : Int) + 1)] 3)
end Go.Proofs.Ytjggpchjfglgcaa
