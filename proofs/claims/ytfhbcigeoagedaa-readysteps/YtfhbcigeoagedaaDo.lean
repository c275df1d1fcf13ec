/- do: one step, of both. -/
import Derived.Test.YtfhbcigeoagedaaRefRem
namespace Go.Proofs.Ytfhbcigeoagedaa
open Go.RowKit Go.Shelf

theorem rput_any (w : World) (qb : Nat) (L : Ls) (p t : Int) (b : Bool) (h : Rq w qb L) (hl : ∀ p, (L p).length ≤ 1000) : Calls Try.prog 23 #[.pointer (some ⟨qb, 0, none⟩), .int .i64 p, .int .i64 t, .bool b] w fun e w' => e = .returned (.int .i64 (putE L p t)) ∧ Rq w' qb (putL b L p t) ∧ Kp w w' [qb] := by
  rcases put_cases b L p t with ⟨-, e1, e2⟩ | ⟨P, T, rfl, rfl, p1, p2, t1, ⟨h0, e1, e2⟩ | ⟨h0, e1, e2⟩⟩
  · refine (rput_err w qb L p t b h hl (by rw [e1]; decide)).mono ?_
    rintro e w' ⟨rfl, rfl⟩
    exact ⟨rfl, by rw [e2]; exact h, Kp.refl _ _⟩
  · refine (rput_err w qb L P T b h hl (by rw [e1]; decide)).mono ?_
    rintro e w' ⟨rfl, rfl⟩
    exact ⟨rfl, by rw [e2]; exact h, Kp.refl _ _⟩
  · rw [e1, e2]
    exact rput_ok w qb P T L b h hl p1 p2 t1 h0
theorem rrem_any (w : World) (qb : Nat) (L : Ls) (t : Int) (h : Rq w qb L) (hl : ∀ p, (L p).length ≤ 1000) (h31 : ∀ T, prN L T 31 ≤ 31) : Calls Try.prog 24 #[.pointer (some ⟨qb, 0, none⟩), .int .i64 t] w fun e w' => e = .returned (.int .i64 (remE L t)) ∧ Rq w' qb (remL L t) ∧ Kp w w' [qb] := by
  rcases rem_cases L t with ⟨-, e1, e2⟩ | ⟨T, rfl, t1, ⟨h0, e1, e2⟩ | ⟨h0, e1, e2⟩⟩
  · refine (rrem_err w qb L t h hl (by rw [e1]; decide)).mono ?_
    rintro e w' ⟨rfl, rfl⟩
    exact ⟨rfl, by rw [e2]; exact h, Kp.refl _ _⟩
  · refine (rrem_err w qb L T h hl (by rw [e1]; decide)).mono ?_
    rintro e w' ⟨rfl, rfl⟩
    exact ⟨rfl, by rw [e2]; exact h, Kp.refl _ _⟩
  · rw [e1, e2]
    exact rrem_ok w qb T _ L h hl t1 rfl (by omega) (h31 T)
theorem prN_le (L : Ls) (t : Nat) : ∀ k, prN L t k ≤ k
  | 0 => Nat.le_refl _
  | k + 1 => by
    have := prN_le L t k
    rw [prN]
    repeat' split
    all_goals omega
section
variable {w w' : World} {rb qb s : Nat} {L : Ls}
theorem Rd.l16 (h : Rd w rb L s) : ∀ p, (L p).length ≤ 1000 := fun p => by
  obtain ⟨c, u, -, hP⟩ := h
  have := hP.seq16 p
  omega
theorem Rd.ne (h : Rd w rb L s) {M : Ls} (h' : Rq w qb M) : rb ≠ qb := by
  obtain ⟨c, u, hR, -⟩ := h
  obtain ⟨F, hF, -⟩ := h'
  exact block_ne hR hF (by decide)
/-- The reference is kept where the program's list changes. -/
theorem Rq.over (h' : Rq w qb L) {M : Ls} (h : Rd w rb M s) (hk : Kp w w' [rb]) : Rq w' qb L := by
  have hne := h.ne h'
  obtain ⟨c, u, hR, -⟩ := h
  refine h'.kept hk (by simp; omega) ?_
  intro r hr
  simp at hr
  subst hr
  exact ⟨_, _, hR, by decide⟩
end
theorem cell3 (w : World) (k p t : Value) : (w.alloc (.cells #[k, p, t] 33)).cell? ⟨w.heap.size, 0, none⟩ = some k ∧ (w.alloc (.cells #[k, p, t] 33)).cell? ⟨w.heap.size, 1, none⟩ = some p ∧ (w.alloc (.cells #[k, p, t] 33)).cell? ⟨w.heap.size, 2, none⟩ = some t := by
  have h := heap_alloc_new w (.cells #[k, p, t] 33)
  exact ⟨by rw [cell_of_row _ _ _ _ _ _ h]; rfl, by rw [cell_of_row _ _ _ _ _ _ h]; rfl, by rw [cell_of_row _ _ _ _ _ _ h]; rfl⟩

theorem results_tmp3 {fn : Func} {t u v : Tmp} (h : fn.results = #[.tmp t, .tmp u, .tmp v]) (tmps : Array Value) (P : Program) (w : World) :
    (results fn tmps).run P w = .ok (.tuple #[tmps.getD t undef, tmps.getD u undef, tmps.getD v undef]) w := by
  simp [results, h, go_sem]
/-- What a step leaves. -/
def Did (w w' : World) (rb qb s : Nat) (e : Ending) : Prop := ∃ rb' L' s', e = .returned (.tuple #[.pointer (some ⟨rb', 0, none⟩), .pointer (some ⟨qb, 0, none⟩), .bool true]) ∧ Rd w' rb' L' s' ∧ Rq w' qb L' ∧ s' ≤ s + 8 ∧ Kp w w' [rb, qb] ∧ (rb' = rb ∨ w.heap.size ≤ rb')

set_option maxRecDepth 100000 in
set_option maxHeartbeats 4000000 in
theorem do_any (w : World) (rb qb s : Nat) (L : Ls) (k p t : Int) (h : Rd w rb L s) (h' : Rq w qb L) (hs : s ≤ 9000) : Calls Try.prog 8 #[.pointer (some ⟨rb, 0, none⟩), .pointer (some ⟨qb, 0, none⟩), .agg #[.int .i64 k, .int .i64 p, .int .i64 t]] w fun e w' => Did w w' rb qb s e := by
  have hl := h.l16
  obtain ⟨W0, hW0⟩ : ∃ W0, w.alloc (.cells #[.int .i64 k, .int .i64 p, .int .i64 t] 33) = W0 := ⟨_, rfl⟩
  obtain ⟨c0, c1, c2⟩ := cell3 w (.int .i64 k) (.int .i64 p) (.int .i64 t)
  have kk : Kp w W0 [] := by rw [← hW0]; exact Kp.alloc _ _ _
  have R0 := hid (h.keep kk (by simp))
  have Q0 := hid (h'.keep kk)
  have K0 := hid kk
  have hrb : rb ≠ w.heap.size := by have := h.lt; omega
  have hqb : qb ≠ w.heap.size := by have := h'.lt; omega
  have hrq := h.ne h'
  have hrl := h.lt
  rw [hW0] at c0 c1 c2
  have C0 := hid (And.intro c0 (And.intro c1 c2))
  clear h h' kk
  have CC := hid (fun (w1 : World) (hk : Kp W0 w1 [rb, qb]) => (show w1.cell? ⟨w.heap.size, 0, none⟩ = some (.int .i64 k) ∧ w1.cell? ⟨w.heap.size, 1, none⟩ = some (.int .i64 p) ∧ w1.cell? ⟨w.heap.size, 2, none⟩ = some (.int .i64 t) from ⟨hk.cell C0.out.1 (by simp; omega), hk.cell C0.out.2.1 (by simp; omega), hk.cell C0.out.2.2 (by simp; omega)⟩))
  have ka : ∀ (A B : World), Kp A B [rb] → Kp A B [rb, qb] := fun _ _ h => h.mono (by intro x hx _; simp at hx; simp [hx])
  have kb : ∀ (A B : World), Kp A B [qb] → Kp A B [rb, qb] := fun _ _ h => h.mono (by intro x hx _; simp at hx; simp [hx])
  have KA := hid ka
  have KB := hid kb
  clear ka kb
  by_cases k1 : k = 1
  · have kt : (k == 1) = true := by simp [k1]
    clear k1
    go_enter Try.func8, Try.ntmps8
    go_wp2_with fail
    refine R0.out.steps.mono ?_
    rintro e x0 ⟨rfl, rfl⟩
    go_wp2_with fail
    go_region_held_law (fun w1 => w1.cell? ⟨w.heap.size, 0, none⟩ = some (.int .i64 k) ∧ w1.cell? ⟨w.heap.size, 1, none⟩ = some (.int .i64 p) ∧ w1.cell? ⟨w.heap.size, 2, none⟩ = some (.int .i64 t))
      (first
        | exact CC.out _ (Kp.drew _ _)
        | exact CC.out _ ((Kp.drew _ _).trans (KA.out _ _ hK1))
        | exact CC.out _ (((Kp.drew _ _).trans (KA.out _ _ hK1)).trans (KB.out _ _ hK2)))
      (first
        | (go_at_call 23; have _hh := hK1; refine (rput_any _ qb L p t false ((Q0.out.keep (Kp.drew _ [])).over (R0.out.keep (Kp.drew _ []) (by simp)) hK1) hl).mono ?_; rintro e z2 ⟨rfl, hQ2, hK2⟩)
        | (go_at_call 18; refine (Rd.tail (R0.out.keep (Kp.drew _ []) (by simp)) (by omega) p t).mono ?_; rintro e z1 ⟨rfl, ⟨sz, lz, mz, hR1⟩, hK1⟩))
    have hRZ := hR1.keep hK2 (by simp; omega)
    have hQZ := hQ2
    have hKZ := ((K0.out.nil (r := [rb, qb])).trans (Kp.drew _ _)).trans ((KA.out _ _ hK1).trans (KB.out _ _ hK2))
    clear hR1 hQ2 hK1 hK2
    obtain ⟨E, hE⟩ : ∃ E, putE L p t = E := ⟨_, rfl⟩
    rw [hE]
    clear hE
    have RZ := hid hRZ
    have QZ := hid hQZ
    have KZ := hid hKZ
    clear hRZ hQZ hKZ
    go_wp2_with fail
    refine RZ.out.steps.mono ?_
    rintro e y1 ⟨rfl, rfl⟩
    go_wp2_with fail
    refine RZ.out.steps.mono ?_
    rintro e y1 ⟨rfl, rfl⟩
    go_wp2_with fail
    refine (RZ.out.first (by omega)).mono ?_
    rintro e y2 ⟨rfl, ⟨s2, l2, m2, hR2⟩, hK2⟩
    have QY := hid (QZ.out.over RZ.out hK2)
    have KY := hid (KZ.out.trans (hK2.mono (by intro x hx _; simp at hx; simp [hx])))
    have RY := hid hR2
    clear hR2 hK2 RZ QZ KZ
    have b1 : (0 : Int) ≤ (sz : Int) - (s : Int) := by omega
    have b2 : (sz : Int) - (s : Int) ≤ 8 := by omega
    have b3 : (0 : Int) ≤ (s2 : Int) - (sz : Int) := by omega
    have b4 : (s2 : Int) - (sz : Int) ≤ 8 := by omega
    go_wp2_with fail
    refine (num_any _ _).mono ?_
    rintro e y3 ⟨rfl, rfl⟩
    go_wp2_with fail
    refine RY.out.steps.mono ?_
    rintro e y4 ⟨rfl, rfl⟩
    go_wp2_with fail
    refine RY.out.steps.mono ?_
    rintro e y4 ⟨rfl, rfl⟩
    go_wp2
    refine bodyPost_ret (results_tmp3 rfl _ _ _) rfl ?_
    exact ⟨rb, _, s2, by simp, RY.out, QY.out, by omega, KY.out, .inl rfl⟩
  by_cases k2 : k = 2
  · have kt : (k == 2) = true := by simp [k2]
    have kf1 : (k == 1) = false := by simp [k1]
    clear k2
    clear k1
    go_enter Try.func8, Try.ntmps8
    go_wp2_with fail
    refine R0.out.steps.mono ?_
    rintro e x0 ⟨rfl, rfl⟩
    go_wp2_with fail
    go_region_held_law (fun w1 => w1.cell? ⟨w.heap.size, 0, none⟩ = some (.int .i64 k) ∧ w1.cell? ⟨w.heap.size, 1, none⟩ = some (.int .i64 p) ∧ w1.cell? ⟨w.heap.size, 2, none⟩ = some (.int .i64 t))
      (first
        | exact CC.out _ (Kp.drew _ _)
        | exact CC.out _ ((Kp.drew _ _).trans (KA.out _ _ hK1))
        | exact CC.out _ (((Kp.drew _ _).trans (KA.out _ _ hK1)).trans (KB.out _ _ hK2)))
      (first
        | (go_at_call 23; have _hh := hK1; refine (rput_any _ qb L p t true ((Q0.out.keep (Kp.drew _ [])).over (R0.out.keep (Kp.drew _ []) (by simp)) hK1) hl).mono ?_; rintro e z2 ⟨rfl, hQ2, hK2⟩)
        | (go_at_call 20; refine (Rd.head (R0.out.keep (Kp.drew _ []) (by simp)) (by omega) p t).mono ?_; rintro e z1 ⟨rfl, ⟨sz, lz, mz, hR1⟩, hK1⟩))
    have hRZ := hR1.keep hK2 (by simp; omega)
    have hQZ := hQ2
    have hKZ := ((K0.out.nil (r := [rb, qb])).trans (Kp.drew _ _)).trans ((KA.out _ _ hK1).trans (KB.out _ _ hK2))
    clear hR1 hQ2 hK1 hK2
    obtain ⟨E, hE⟩ : ∃ E, putE L p t = E := ⟨_, rfl⟩
    rw [hE]
    clear hE
    have RZ := hid hRZ
    have QZ := hid hQZ
    have KZ := hid hKZ
    clear hRZ hQZ hKZ
    go_wp2_with fail
    refine RZ.out.steps.mono ?_
    rintro e y1 ⟨rfl, rfl⟩
    go_wp2_with fail
    refine RZ.out.steps.mono ?_
    rintro e y1 ⟨rfl, rfl⟩
    go_wp2_with fail
    refine (RZ.out.first (by omega)).mono ?_
    rintro e y2 ⟨rfl, ⟨s2, l2, m2, hR2⟩, hK2⟩
    have QY := hid (QZ.out.over RZ.out hK2)
    have KY := hid (KZ.out.trans (hK2.mono (by intro x hx _; simp at hx; simp [hx])))
    have RY := hid hR2
    clear hR2 hK2 RZ QZ KZ
    have b1 : (0 : Int) ≤ (sz : Int) - (s : Int) := by omega
    have b2 : (sz : Int) - (s : Int) ≤ 8 := by omega
    have b3 : (0 : Int) ≤ (s2 : Int) - (sz : Int) := by omega
    have b4 : (s2 : Int) - (sz : Int) ≤ 8 := by omega
    go_wp2_with fail
    refine (num_any _ _).mono ?_
    rintro e y3 ⟨rfl, rfl⟩
    go_wp2_with fail
    refine RY.out.steps.mono ?_
    rintro e y4 ⟨rfl, rfl⟩
    go_wp2_with fail
    refine RY.out.steps.mono ?_
    rintro e y4 ⟨rfl, rfl⟩
    go_wp2
    refine bodyPost_ret (results_tmp3 rfl _ _ _) rfl ?_
    exact ⟨rb, _, s2, by simp, RY.out, QY.out, by omega, KY.out, .inl rfl⟩
  by_cases k3 : k = 3
  · have kt : (k == 3) = true := by simp [k3]
    have kf1 : (k == 1) = false := by simp [k1]
    have kf2 : (k == 2) = false := by simp [k2]
    clear k3
    clear k1
    clear k2
    go_enter Try.func8, Try.ntmps8
    go_wp2_with fail
    refine R0.out.steps.mono ?_
    rintro e x0 ⟨rfl, rfl⟩
    go_wp2_with fail
    go_region_held_law (fun w1 => w1.cell? ⟨w.heap.size, 0, none⟩ = some (.int .i64 k) ∧ w1.cell? ⟨w.heap.size, 1, none⟩ = some (.int .i64 p) ∧ w1.cell? ⟨w.heap.size, 2, none⟩ = some (.int .i64 t))
      (first
        | exact CC.out _ (Kp.drew _ _)
        | exact CC.out _ ((Kp.drew _ _).trans (KA.out _ _ hK1))
        | exact CC.out _ (((Kp.drew _ _).trans (KA.out _ _ hK1)).trans (KB.out _ _ hK2)))
      (first
        | (go_at_call 24; have _hh := hK1; refine (rrem_any _ qb L t ((Q0.out.keep (Kp.drew _ [])).over (R0.out.keep (Kp.drew _ []) (by simp)) hK1) hl (fun T => prN_le L T 31)).mono ?_; rintro e z2 ⟨rfl, hQ2, hK2⟩)
        | (go_at_call 17; refine (Rd.remove (R0.out.keep (Kp.drew _ []) (by simp)) (by omega) t).mono ?_; rintro e z1 ⟨rfl, ⟨sz, lz, mz, hR1⟩, hK1⟩))
    have hRZ := hR1.keep hK2 (by simp; omega)
    have hQZ := hQ2
    have hKZ := ((K0.out.nil (r := [rb, qb])).trans (Kp.drew _ _)).trans ((KA.out _ _ hK1).trans (KB.out _ _ hK2))
    clear hR1 hQ2 hK1 hK2
    obtain ⟨E, hE⟩ : ∃ E, remE L t = E := ⟨_, rfl⟩
    rw [hE]
    clear hE
    have RZ := hid hRZ
    have QZ := hid hQZ
    have KZ := hid hKZ
    clear hRZ hQZ hKZ
    go_wp2_with fail
    refine RZ.out.steps.mono ?_
    rintro e y1 ⟨rfl, rfl⟩
    go_wp2_with fail
    refine RZ.out.steps.mono ?_
    rintro e y1 ⟨rfl, rfl⟩
    go_wp2_with fail
    refine (RZ.out.first (by omega)).mono ?_
    rintro e y2 ⟨rfl, ⟨s2, l2, m2, hR2⟩, hK2⟩
    have QY := hid (QZ.out.over RZ.out hK2)
    have KY := hid (KZ.out.trans (hK2.mono (by intro x hx _; simp at hx; simp [hx])))
    have RY := hid hR2
    clear hR2 hK2 RZ QZ KZ
    have b1 : (0 : Int) ≤ (sz : Int) - (s : Int) := by omega
    have b2 : (sz : Int) - (s : Int) ≤ 8 := by omega
    have b3 : (0 : Int) ≤ (s2 : Int) - (sz : Int) := by omega
    have b4 : (s2 : Int) - (sz : Int) ≤ 8 := by omega
    go_wp2_with fail
    refine (num_any _ _).mono ?_
    rintro e y3 ⟨rfl, rfl⟩
    go_wp2_with fail
    refine RY.out.steps.mono ?_
    rintro e y4 ⟨rfl, rfl⟩
    go_wp2_with fail
    refine RY.out.steps.mono ?_
    rintro e y4 ⟨rfl, rfl⟩
    go_wp2
    refine bodyPost_ret (results_tmp3 rfl _ _ _) rfl ?_
    exact ⟨rb, _, s2, by simp, RY.out, QY.out, by omega, KY.out, .inl rfl⟩
  by_cases k4 : k = 4
  · have kt : (k == 4) = true := by simp [k4]
    have kf1 : (k == 1) = false := by simp [k1]
    have kf2 : (k == 2) = false := by simp [k2]
    have kf3 : (k == 3) = false := by simp [k3]
    clear k1 k2 k3 k4
    go_enter Try.func8, Try.ntmps8
    go_wp2_with fail
    refine R0.out.steps.mono ?_
    rintro e x0 ⟨rfl, rfl⟩
    obtain ⟨c, u, hr, hp⟩ := R0.out
    go_wp2_with fail
    refine (copy_ok x0 rb c u s hr hp.not_zero).mono ?_
    rintro e x1 ⟨rfl, rfl⟩
    have kc := Kp.alloc x0 (.cells (rcs c u s) 58) []
    have cs := same_any _ (some ⟨x0.heap.size, 0, none⟩) (some ⟨rb, 0, none⟩) c c L L (.inl ⟨_, u, s, rfl, heap_alloc_new x0 _, hp⟩) (.inl ⟨rb, u, s, rfl, hr.keep kc (by simp), hp⟩)
    rw [show sameC c c = true from (sameC_iff c c).2 (fun _ _ => rfl)] at cs
    have RC := hid (show Rd (x0.alloc (.cells (rcs c u s) 58)) x0.heap.size L s from ⟨c, u, heap_alloc_new x0 _, hp⟩)
    have RO := hid (R0.out.keep kc (by simp))
    have QO := hid (Q0.out.keep kc)
    have KO := hid (K0.out.trans kc)
    have hx0 : w.heap.size ≤ x0.heap.size := K0.out.size
    clear hr hp kc R0 Q0
    obtain ⟨cb, hcb⟩ : ∃ cb, x0.heap.size = cb := ⟨_, rfl⟩
    rw [hcb] at cs RC hx0 ⊢
    have hcr : cb ≠ rb := by omega
    go_wp2_with fail
    refine cs.mono ?_
    rintro e x2 ⟨rfl, hK2⟩
    have RC2 := hid (RC.out.keep hK2 (by simp))
    have RO2 := hid (RO.out.keep hK2 (by simp))
    have QO2 := hid (QO.out.keep hK2)
    have KO2 := hid (KO.out.trans hK2)
    clear hK2 cs RC RO QO KO
    go_wp2_with fail
    refine (RO2.out.tail (by omega) 1 15).mono ?_
    rintro e x3 ⟨rfl, ⟨s3, l3, m3, hR3⟩, hK3⟩
    have RC3 := hid (RC2.out.keep hK3 (by simp; omega))
    have RO3 := hid hR3
    have QO3 := hid (QO2.out.over RO2.out hK3)
    have KO3 := hid ((KO2.out.nil (r := [rb, qb])).trans (KA.out _ _ hK3))
    clear hR3 hK3 RC2 RO2 QO2 KO2
    go_wp2_with fail
    refine (RO3.out.remove (by omega) 3).mono ?_
    rintro e x4 ⟨rfl, ⟨s4, l4, m4, hR4⟩, hK4⟩
    have RC4 := hid (RC3.out.keep hK4 (by simp; omega))
    have QO4 := hid (QO3.out.over RO3.out hK4)
    have KO4 := hid (KO3.out.trans (KA.out _ _ hK4))
    clear hR4 hK4 RC3 RO3 QO3 KO3
    go_wp2
    refine bodyPost_ret (results_tmp3 rfl _ _ _) rfl ?_
    exact ⟨cb, L, s, by simp, RC4.out, QO4.out, by omega, KO4.out, .inr hx0⟩
  have kf1 : (k == 1) = false := by simp [k1]
  have kf2 : (k == 2) = false := by simp [k2]
  have kf3 : (k == 3) = false := by simp [k3]
  have kf4 : (k == 4) = false := by simp [k4]
  clear k1 k2 k3 k4
  go_enter Try.func8, Try.ntmps8
  go_wp2_with fail
  refine R0.out.steps.mono ?_
  rintro e x0 ⟨rfl, rfl⟩
  obtain ⟨sz, hsz⟩ : ∃ sz, s = sz := ⟨_, rfl⟩
  subst hsz
  have hRZ := R0.out
  have hQZ := Q0.out
  have hKZ := K0.out.nil (r := [rb, qb])
  have RZ := hid hRZ
  have QZ := hid hQZ
  have KZ := hid hKZ
  clear hRZ hQZ hKZ
  go_wp2_with fail
  refine RZ.out.steps.mono ?_
  rintro e y1 ⟨rfl, rfl⟩
  go_wp2_with fail
  refine RZ.out.steps.mono ?_
  rintro e y1 ⟨rfl, rfl⟩
  go_wp2_with fail
  refine (RZ.out.first (by omega)).mono ?_
  rintro e y2 ⟨rfl, ⟨s2, l2, m2, hR2⟩, hK2⟩
  have QY := hid (QZ.out.over RZ.out hK2)
  have KY := hid (KZ.out.trans (hK2.mono (by intro x hx _; simp at hx; simp [hx])))
  have RY := hid hR2
  clear hR2 hK2 RZ QZ KZ
  have b1 : (0 : Int) ≤ (s : Int) - (s : Int) := by omega
  have b2 : (s : Int) - (s : Int) ≤ 8 := by omega
  have b3 : (0 : Int) ≤ (s2 : Int) - (s : Int) := by omega
  have b4 : (s2 : Int) - (s : Int) ≤ 8 := by omega
  go_wp2_with fail
  refine (num_any _ _).mono ?_
  rintro e y3 ⟨rfl, rfl⟩
  go_wp2_with fail
  refine RY.out.steps.mono ?_
  rintro e y4 ⟨rfl, rfl⟩
  go_wp2_with fail
  refine RY.out.steps.mono ?_
  rintro e y4 ⟨rfl, rfl⟩
  go_wp2
  refine bodyPost_ret (results_tmp3 rfl _ _ _) rfl ?_
  exact ⟨rb, _, s2, by simp, RY.out, QY.out, by omega, KY.out, .inl rfl⟩
end Go.Proofs.Ytfhbcigeoagedaa
