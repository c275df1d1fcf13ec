/- does: one step, of both. -/
import Derived.Test.YtclbphnelfacfaaRk
namespace Go.Proofs.Ytclbphnelfacfaa
open Go.RowKit Go.Shelf

/-- What a step does. -/
def stL (L : Ls) (S : Sh) (k t p : Int) : Ls := if k = 1 then putL false L p t else if k = 2 then remL L t else if k = 3 then yiL L t else if k = 4 then tkL L S else if k = 5 then puL L t p else if k = 6 then moL L t p else if k = 7 then liL L t p else L
def stS (q : Nat) (L : Ls) (S : Sh) (k t p : Int) (r : Bool) : Sh := if k = 1 then addS q S L t p r else if k = 2 then lvS S L t else if k = 3 then S else if k = 4 then tkS q L S else if k = 5 then puS q S L t p r else S
section
variable {w w' : World} {xb rb qb q s : Nat} {S : Sh} {L : Ls}
theorem Tn.qne (h : Tn w xb rb q S L s) {L2 : Ls} {S2 : Sh} {q2 : Nat} (h' : Rt w qb q2 L2 S2) : qb ≠ xb ∧ qb ≠ rb := by
  obtain ⟨F, h1, -⟩ := h'
  obtain ⟨c, u, hR, -⟩ := h.rd
  exact ⟨block_ne h1 h.tc (by decide), block_ne h1 hR (by decide)⟩
/-- The reference is kept where the program's turns go on. -/
theorem Rt.over {L2 : Ls} {S2 : Sh} {q2 : Nat} (h' : Rt w qb q2 L2 S2) (h : Tn w xb rb q S L s) (hk : Kp w w' [xb, rb]) : Rt w' qb q2 L2 S2 := by
  have hne := h.qne h'
  obtain ⟨c, u, hR, -⟩ := h.rd
  refine Rx.kept h' hk (by simp; exact hne) ?_
  intro r hr
  simp at hr
  rcases hr with rfl | rfl
  · exact ⟨_, _, h.tc, by decide⟩
  · exact ⟨_, _, hR, by decide⟩
theorem Tn.over2 (h : Tn w xb rb q S L s) (hn : qb ≠ xb ∧ qb ≠ rb) (hk : Kp w w' [qb]) : Tn w' xb rb q S L s := h.keep hk (by simp; exact fun e => hn.1 e.symm) (by simp; exact fun e => hn.2 e.symm)
/-- What a step leaves. -/
def Did (w w' : World) (xb rb qb q : Nat) (S : Sh) (L : Ls) (s : Nat) : Prop := (∃ s', s' ≤ s + 20 ∧ Tn w' xb rb q S L s') ∧ Rt w' qb q L S ∧ Kp w w' [xb, rb, qb]
theorem cell4 (w : World) (a b c d : Value) : (w.alloc (.cells #[a, b, c, d] 32)).cell? ⟨w.heap.size, 0, none⟩ = some a ∧ (w.alloc (.cells #[a, b, c, d] 32)).cell? ⟨w.heap.size, 1, none⟩ = some b ∧ (w.alloc (.cells #[a, b, c, d] 32)).cell? ⟨w.heap.size, 2, none⟩ = some c ∧ (w.alloc (.cells #[a, b, c, d] 32)).cell? ⟨w.heap.size, 3, none⟩ = some d := by
  have h := heap_alloc_new w (.cells #[a, b, c, d] 32)
  exact ⟨by rw [cell_of_row _ _ _ _ _ _ h]; rfl, by rw [cell_of_row _ _ _ _ _ _ h]; rfl, by rw [cell_of_row _ _ _ _ _ _ h]; rfl, by rw [cell_of_row _ _ _ _ _ _ h]; rfl⟩
set_option maxRecDepth 100000 in
set_option maxHeartbeats 4000000 in
theorem does_any (k t p : Int) (r : Bool) (h : Tn w xb rb q S L s) (h' : Rt w qb q L S) (hs : s ≤ 870000) : Calls Try.prog 12 #[.pointer (some ⟨xb, 0, none⟩), .pointer (some ⟨qb, 0, none⟩), .agg #[.int .i64 k, .int .i64 t, .int .i64 p, .bool r]] w fun e w' => e = .returned (.bool true) ∧ Did w w' xb rb qb q (stS q L S k t p r) (stL L S k t p) s := by
  have HOK := hid h.rd.ok
  have HLF := hid h.left
  obtain ⟨W0, hW0⟩ : ∃ W0, w.alloc (.cells #[.int .i64 k, .int .i64 t, .int .i64 p, .bool r] 32) = W0 := ⟨_, rfl⟩
  obtain ⟨c0, c1, c2, c3⟩ := cell4 w (.int .i64 k) (.int .i64 t) (.int .i64 p) (.bool r)
  have kk : Kp w W0 [] := by rw [← hW0]; exact Kp.alloc _ _ _
  have R0 := hid (h.same kk)
  have Q0 := hid (h'.keep kk)
  have K0 := hid kk
  have hlx := h.lt
  have hlq := Rx.lt h'
  have hne := h.qne h'
  rw [hW0] at c0 c1 c2 c3
  have C0 := hid (And.intro c0 (And.intro c1 (And.intro c2 c3)))
  clear h h' kk
  have hnm : w.heap.size ∉ [xb, rb, qb] := by simp; omega
  have CC := hid (fun (w1 : World) (hk : Kp W0 w1 [xb, rb, qb]) => (show w1.cell? ⟨w.heap.size, 0, none⟩ = some (.int .i64 k) ∧ w1.cell? ⟨w.heap.size, 1, none⟩ = some (.int .i64 t) ∧ w1.cell? ⟨w.heap.size, 2, none⟩ = some (.int .i64 p) ∧ w1.cell? ⟨w.heap.size, 3, none⟩ = some (.bool r) from ⟨hk.cell C0.out.1 hnm, hk.cell C0.out.2.1 hnm, hk.cell C0.out.2.2.1 hnm, hk.cell C0.out.2.2.2 hnm⟩))
  have KA := hid (show ∀ (A B : World), Kp A B [xb, rb] → Kp A B [xb, rb, qb] from fun _ _ h => h.mono (by intro x hx _; simp at hx; rcases hx with e | e <;> simp [e]))
  have KB := hid (show ∀ (A B : World), Kp A B [qb] → Kp A B [xb, rb, qb] from fun _ _ h => h.mono (by intro x hx _; simp at hx; simp [hx]))
  have HNE := hid hne
  clear hnm hlx hlq hne
  /- Both have gone on. -/
  have FIN := hid (fun (W1 w1 w2 : World) (S1 : Sh) (L1 : Ls) (k1 : Nat) (ha : Kp W0 W1 []) (h1 : To W1 w1 xb rb q S1 L1 s k1) (hk1 : k1 ≤ 20) (h2 : Rt w2 qb q L1 S1) (h3 : Kp w1 w2 [qb]) => (show Did w w2 xb rb qb q S1 L1 s from by
    obtain ⟨⟨s1, l1, hT⟩, kT⟩ := h1
    exact ⟨⟨s1, by omega, hT.over2 HNE.out h3⟩, h2, (((K0.out.trans ha).nil).trans (KA.out _ _ kT)).trans (KB.out _ _ h3)⟩))
  by_cases k1 : k = 1
  · have kt : (k == 1) = true := by simp [k1]
    have eL : stL L S k t p = putL false L p t := by simp [stL, k1]
    have eS : stS q L S k t p r = addS q S L t p r := by simp [stS, k1]
    rw [eL, eS]
    clear eL eS k1
    go_enter Try.func12, Try.ntmps12
    go_wp2_with fail
    go_region_held_law (fun w1 => w1.cell? ⟨w.heap.size, 0, none⟩ = some (.int .i64 k) ∧ w1.cell? ⟨w.heap.size, 1, none⟩ = some (.int .i64 t) ∧ w1.cell? ⟨w.heap.size, 2, none⟩ = some (.int .i64 p) ∧ w1.cell? ⟨w.heap.size, 3, none⟩ = some (.bool r))
      (first
        | exact CC.out _ (Kp.drew _ _)
        | exact CC.out _ ((Kp.drew _ _).trans (KA.out _ _ hK1))
        | exact CC.out _ (((Kp.drew _ _).trans (KA.out _ _ hK1)).trans (KB.out _ _ hK2)))
      (first
        | (go_at_call 34; have _hh := hK1; refine (Rt.add ((Q0.out.keep (Kp.drew _ [])).over (R0.out.same (Kp.drew _ [])) hK1) HOK.out t p r).mono ?_; rintro e z2 ⟨rfl, hQ2, hK2⟩)
        | (go_at_call 14; refine (Tn.add (R0.out.same (Kp.drew _ [])) (by omega) t p r).mono ?_; rintro e z1 ⟨rfl, hT1⟩; have hK1 := hT1.2))
    have DD := hid (FIN.out _ _ _ _ _ _ (Kp.drew _ _) hT1 (by omega) hQ2 hK2)
    clear hT1 hQ2 hK1 hK2
    obtain ⟨E, hE⟩ : ∃ E, putE L p t = E := ⟨_, rfl⟩
    rw [hE]
    clear hE
    go_wp2
    go_ret
    exact ⟨by simp, DD.out⟩
  by_cases k2 : k = 2
  · have kt : (k == 2) = true := by simp [k2]
    have kf1 : (k == 1) = false := by simp [k1]
    have eL : stL L S k t p = remL L t := by simp [stL, k2]
    have eS : stS q L S k t p r = lvS S L t := by simp [stS, k2]
    rw [eL, eS]
    clear eL eS k2 k1
    go_enter Try.func12, Try.ntmps12
    go_wp2_with fail
    go_region_held_law (fun w1 => w1.cell? ⟨w.heap.size, 0, none⟩ = some (.int .i64 k) ∧ w1.cell? ⟨w.heap.size, 1, none⟩ = some (.int .i64 t) ∧ w1.cell? ⟨w.heap.size, 2, none⟩ = some (.int .i64 p) ∧ w1.cell? ⟨w.heap.size, 3, none⟩ = some (.bool r))
      (first
        | exact CC.out _ (Kp.drew _ _)
        | exact CC.out _ ((Kp.drew _ _).trans (KA.out _ _ hK1))
        | exact CC.out _ (((Kp.drew _ _).trans (KA.out _ _ hK1)).trans (KB.out _ _ hK2)))
      (first
        | (go_at_call 35; have _hh := hK1; refine (Rt.leave ((Q0.out.keep (Kp.drew _ [])).over (R0.out.same (Kp.drew _ [])) hK1) HOK.out t).mono ?_; rintro e z2 ⟨rfl, hQ2, hK2⟩)
        | (go_at_call 27; refine (Tn.leave (R0.out.same (Kp.drew _ [])) (by omega) t).mono ?_; rintro e z1 ⟨rfl, hT1⟩; have hK1 := hT1.2))
    have DD := hid (FIN.out _ _ _ _ _ _ (Kp.drew _ _) hT1 (by omega) hQ2 hK2)
    clear hT1 hQ2 hK1 hK2
    obtain ⟨E, hE⟩ : ∃ E, remE L t = E := ⟨_, rfl⟩
    rw [hE]
    clear hE
    go_wp2
    go_ret
    exact ⟨by simp, DD.out⟩
  by_cases k3 : k = 3
  · have kt : (k == 3) = true := by simp [k3]
    have kf1 : (k == 1) = false := by simp [k1]
    have kf2 : (k == 2) = false := by simp [k2]
    have eL : stL L S k t p = yiL L t := by simp [stL, k3]
    have eS : stS q L S k t p r = S := by simp [stS, k3]
    rw [eL, eS]
    clear eL eS k3 k1 k2
    go_enter Try.func12, Try.ntmps12
    go_wp2_with fail
    go_region_held_law (fun w1 => w1.cell? ⟨w.heap.size, 0, none⟩ = some (.int .i64 k) ∧ w1.cell? ⟨w.heap.size, 1, none⟩ = some (.int .i64 t) ∧ w1.cell? ⟨w.heap.size, 2, none⟩ = some (.int .i64 p) ∧ w1.cell? ⟨w.heap.size, 3, none⟩ = some (.bool r))
      (first
        | exact CC.out _ (Kp.drew _ _)
        | exact CC.out _ ((Kp.drew _ _).trans (KA.out _ _ hK1))
        | exact CC.out _ (((Kp.drew _ _).trans (KA.out _ _ hK1)).trans (KB.out _ _ hK2)))
      (first
        | (go_at_call 36; have _hh := hK1; refine (Rt.yield ((Q0.out.keep (Kp.drew _ [])).over (R0.out.same (Kp.drew _ [])) hK1) HOK.out t).mono ?_; rintro e z2 ⟨rfl, hQ2, hK2⟩)
        | (go_at_call 28; refine (Tn.yield (R0.out.same (Kp.drew _ [])) (by omega) t).mono ?_; rintro e z1 ⟨rfl, hT1⟩; have hK1 := hT1.2))
    have DD := hid (FIN.out _ _ _ _ _ _ (Kp.drew _ _) hT1 (by omega) hQ2 hK2)
    clear hT1 hQ2 hK1 hK2
    obtain ⟨E, hE⟩ : ∃ E, remE L t = E := ⟨_, rfl⟩
    rw [hE]
    clear hE
    go_wp2
    go_ret
    exact ⟨by simp, DD.out⟩
  by_cases k4 : k = 4
  · have kt : (k == 4) = true := by simp [k4]
    have kf1 : (k == 1) = false := by simp [k1]
    have kf2 : (k == 2) = false := by simp [k2]
    have kf3 : (k == 3) = false := by simp [k3]
    have eL : stL L S k t p = tkL L S := by simp [stL, k4]
    have eS : stS q L S k t p r = tkS q L S := by simp [stS, k4]
    rw [eL, eS]
    clear eL eS k4 k1 k2 k3
    go_enter Try.func12, Try.ntmps12
    go_wp2_with fail
    refine (R0.out.tick (by omega)).mono ?_
    rintro e z1 ⟨rfl, hT1⟩
    have T1 := hid hT1
    have Q1 := hid (Q0.out.over R0.out hT1.2)
    clear hT1
    obtain ⟨fv, hfv⟩ : ∃ fv, tkV L S = fv := ⟨_, rfl⟩
    obtain ⟨fb, hfb⟩ : ∃ fb, tkB L S = fb := ⟨_, rfl⟩
    rw [hfv, hfb]
    have HF := hid (And.intro hfv hfb)
    clear hfv hfb
    go_wp2_with fail
    refine (Q1.out.tick HOK.out HLF.out).mono ?_
    rintro e z2 ⟨rfl, hQ2, hK2⟩
    rw [HF.out.1, HF.out.2]
    have DD := hid (FIN.out W0 _ _ _ _ _ (Kp.refl _ _) T1.out (by omega) hQ2 hK2)
    clear hQ2 hK2
    have hbb : (fb == fb) = true := by simp
    go_wp2
    go_ret
    exact ⟨rfl, DD.out⟩
  by_cases k5 : k = 5
  · have kt : (k == 5) = true := by simp [k5]
    have kf1 : (k == 1) = false := by simp [k1]
    have kf2 : (k == 2) = false := by simp [k2]
    have kf3 : (k == 3) = false := by simp [k3]
    have kf4 : (k == 4) = false := by simp [k4]
    have eL : stL L S k t p = puL L t p := by simp [stL, k5]
    have eS : stS q L S k t p r = puS q S L t p r := by simp [stS, k5]
    rw [eL, eS]
    clear eL eS k5 k1 k2 k3 k4
    go_enter Try.func12, Try.ntmps12
    go_wp2_with fail
    go_region_held_law (fun w1 => w1.cell? ⟨w.heap.size, 0, none⟩ = some (.int .i64 k) ∧ w1.cell? ⟨w.heap.size, 1, none⟩ = some (.int .i64 t) ∧ w1.cell? ⟨w.heap.size, 2, none⟩ = some (.int .i64 p) ∧ w1.cell? ⟨w.heap.size, 3, none⟩ = some (.bool r))
      (first
        | exact CC.out _ (Kp.drew _ _)
        | exact CC.out _ ((Kp.drew _ _).trans (KA.out _ _ hK1))
        | exact CC.out _ (((Kp.drew _ _).trans (KA.out _ _ hK1)).trans (KB.out _ _ hK2)))
      (first
        | (go_at_call 38; have _hh := hK1; refine (Rt.put ((Q0.out.keep (Kp.drew _ [])).over (R0.out.same (Kp.drew _ [])) hK1) HOK.out t p r).mono ?_; rintro e z2 ⟨rfl, hQ2, hK2⟩)
        | (go_at_call 29; refine (Tn.put (R0.out.same (Kp.drew _ [])) (by omega) t p r).mono ?_; rintro e z1 ⟨rfl, hT1⟩; have hK1 := hT1.2))
    have DD := hid (FIN.out _ _ _ _ _ _ (Kp.drew _ _) hT1 (by omega) hQ2 hK2)
    clear hT1 hQ2 hK1 hK2
    obtain ⟨E, hE⟩ : ∃ E, mvE L t p = E := ⟨_, rfl⟩
    rw [hE]
    clear hE
    go_wp2
    go_ret
    exact ⟨by simp, DD.out⟩
  by_cases k6 : k = 6
  · have kt : (k == 6) = true := by simp [k6]
    have kf1 : (k == 1) = false := by simp [k1]
    have kf2 : (k == 2) = false := by simp [k2]
    have kf3 : (k == 3) = false := by simp [k3]
    have kf4 : (k == 4) = false := by simp [k4]
    have kf5 : (k == 5) = false := by simp [k5]
    have eL : stL L S k t p = moL L t p := by simp [stL, k6]
    have eS : stS q L S k t p r = S := by simp [stS, k6]
    rw [eL, eS]
    clear eL eS k6 k1 k2 k3 k4 k5
    go_enter Try.func12, Try.ntmps12
    go_wp2_with fail
    go_region_held_law (fun w1 => w1.cell? ⟨w.heap.size, 0, none⟩ = some (.int .i64 k) ∧ w1.cell? ⟨w.heap.size, 1, none⟩ = some (.int .i64 t) ∧ w1.cell? ⟨w.heap.size, 2, none⟩ = some (.int .i64 p) ∧ w1.cell? ⟨w.heap.size, 3, none⟩ = some (.bool r))
      (first
        | exact CC.out _ (Kp.drew _ _)
        | exact CC.out _ ((Kp.drew _ _).trans (KA.out _ _ hK1))
        | exact CC.out _ (((Kp.drew _ _).trans (KA.out _ _ hK1)).trans (KB.out _ _ hK2)))
      (first
        | (go_at_call 39; have _hh := hK1; refine (Rt.move ((Q0.out.keep (Kp.drew _ [])).over (R0.out.same (Kp.drew _ [])) hK1) HOK.out t p).mono ?_; rintro e z2 ⟨rfl, hQ2, hK2⟩)
        | (go_at_call 30; refine (Tn.move (R0.out.same (Kp.drew _ [])) (by omega) t p).mono ?_; rintro e z1 ⟨rfl, hT1⟩; have hK1 := hT1.2))
    have DD := hid (FIN.out _ _ _ _ _ _ (Kp.drew _ _) hT1 (by omega) hQ2 hK2)
    clear hT1 hQ2 hK1 hK2
    obtain ⟨E, hE⟩ : ∃ E, mvE L t p = E := ⟨_, rfl⟩
    rw [hE]
    clear hE
    go_wp2
    go_ret
    exact ⟨by simp, DD.out⟩
  by_cases k7 : k = 7
  · have kt : (k == 7) = true := by simp [k7]
    have kf1 : (k == 1) = false := by simp [k1]
    have kf2 : (k == 2) = false := by simp [k2]
    have kf3 : (k == 3) = false := by simp [k3]
    have kf4 : (k == 4) = false := by simp [k4]
    have kf5 : (k == 5) = false := by simp [k5]
    have kf6 : (k == 6) = false := by simp [k6]
    have eL : stL L S k t p = liL L t p := by simp [stL, k7]
    have eS : stS q L S k t p r = S := by simp [stS, k7]
    rw [eL, eS]
    clear eL eS k7 k1 k2 k3 k4 k5 k6
    go_enter Try.func12, Try.ntmps12
    go_wp2_with fail
    go_region_held_law (fun w1 => w1.cell? ⟨w.heap.size, 0, none⟩ = some (.int .i64 k) ∧ w1.cell? ⟨w.heap.size, 1, none⟩ = some (.int .i64 t) ∧ w1.cell? ⟨w.heap.size, 2, none⟩ = some (.int .i64 p) ∧ w1.cell? ⟨w.heap.size, 3, none⟩ = some (.bool r))
      (first
        | exact CC.out _ (Kp.drew _ _)
        | exact CC.out _ ((Kp.drew _ _).trans (KA.out _ _ hK1))
        | exact CC.out _ (((Kp.drew _ _).trans (KA.out _ _ hK1)).trans (KB.out _ _ hK2)))
      (first
        | (go_at_call 40; have _hh := hK1; refine (Rt.lift ((Q0.out.keep (Kp.drew _ [])).over (R0.out.same (Kp.drew _ [])) hK1) HOK.out t p).mono ?_; rintro e z2 ⟨rfl, hQ2, hK2⟩)
        | (go_at_call 31; refine (Tn.lift (R0.out.same (Kp.drew _ [])) (by omega) t p).mono ?_; rintro e z1 ⟨rfl, hT1⟩; have hK1 := hT1.2))
    have DD := hid (FIN.out _ _ _ _ _ _ (Kp.drew _ _) hT1 (by omega) hQ2 hK2)
    clear hT1 hQ2 hK1 hK2
    obtain ⟨E, hE⟩ : ∃ E, mvE L t p = E := ⟨_, rfl⟩
    rw [hE]
    clear hE
    go_wp2
    go_ret
    exact ⟨by simp, DD.out⟩
  have hn : stL L S k t p = L ∧ stS q L S k t p r = S := by simp [stL, stS, k1, k2, k3, k4, k5, k6, k7]
  rw [hn.1, hn.2]
  have kf1 : (k == 1) = false := by simp [k1]
  have kf2 : (k == 2) = false := by simp [k2]
  have kf3 : (k == 3) = false := by simp [k3]
  have kf4 : (k == 4) = false := by simp [k4]
  have kf5 : (k == 5) = false := by simp [k5]
  have kf6 : (k == 6) = false := by simp [k6]
  have kf7 : (k == 7) = false := by simp [k7]
  clear hn k1 k2 k3 k4 k5 k6 k7
  have DD := hid (show Did w W0 xb rb qb q S L s from ⟨⟨s, by omega, R0.out⟩, Q0.out, K0.out.nil⟩)
  go_enter Try.func12, Try.ntmps12
  go_wp2
  go_ret
  exact ⟨rfl, DD.out⟩
end
end Go.Proofs.Ytclbphnelfacfaa
