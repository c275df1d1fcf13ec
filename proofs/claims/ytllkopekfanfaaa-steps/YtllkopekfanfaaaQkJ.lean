/- What holds of each queue is kept. -/
import Derived.Test.YtllkopekfanfaaaSnJ
import Derived.Test.YtllkopekfanfaaaRu
import Derived.Test.YtllkopekfanfaaaRv
import Derived.Test.YtllkopekfanfaaaLc
namespace Go.Proofs.Ytllkopekfanfaaa
open Go.RowKit Go.Shelf Go.Lib Go.Sort Go.Maps
attribute [local go_sem] Oper.semAt_some

theorem has_nil (t : Int) : hasP [] t = false := rfl
theorem fst_no {L : List Dl} (h : okL L) (hb : fstB L = false) : L = [] := by
  unfold fstB at hb
  have h1 := ord_len h
  cases hz : ordL L with
  | nil => rw [hz] at h1; exact List.eq_nil_of_length_eq_zero h1.symm
  | cons x Z => rw [hz] at hb; simp at hb
theorem fst_nilB : fstB [] = false := by
  unfold fstB
  have h1 := ord_len okL.nil
  cases hz : ordL [] with
  | nil => rfl
  | cons x Z => rw [hz] at h1; simp at h1
theorem has_rng {L : List Dl} (h : okL L) {t : Int} (hp : hasP L t = true) : 0 ≤ t ∧ t < 16 := by
  obtain ⟨x, hx, rfl⟩ := mem_has.1 hp
  exact (h.rng x hx).1
theorem has_may {L : List Dl} (h : okL L) {t : Int} (hp : hasP L t = true) : mayT t = true := by
  have := has_rng h hp
  simp [mayT, this]
theorem has_put {L : List Dl} {t p : Int} (hm : (mayT t && mayP p) = true) (hn : hasP L t = false) (u : Int) : hasP (putL L t p) u = true ↔ u = t ∨ hasP L u = true := by
  refine ⟨has_putL, fun h => ?_⟩
  unfold putL
  rw [if_pos hm, hn]
  rcases h with rfl | h
  · simp [hasP]
  · obtain ⟨x, hx, rfl⟩ := mem_has.1 h
    exact mem_has.2 ⟨x, by simp [hx], rfl⟩
theorem has_take {L : List Dl} (hb : fstB L = true) (u : Int) : hasP (takeL L) u = true ↔ hasP L u = true ∧ u ≠ fstT L := by
  unfold takeL
  rw [if_pos hb]
  exact has_delP _ _ _
theorem has_lv {L : List Dl} {t : Int} (hm : mayT t = true) (u : Int) : hasP (lvL L t) u = true ↔ hasP L u = true ∧ u ≠ t := by
  unfold lvL
  rw [if_pos hm]
  exact has_delP _ _ _
theorem has_chg {L : List Dl} (t p u : Int) : hasP (chgL L t p) u = hasP L u := by
  unfold chgL
  split
  · split
    · rw [Bool.eq_iff_iff, mem_map_has, ch_keys, ← mem_map_has]
    · rfl
  · rfl
theorem bool_iff {a b : Bool} (h : a = true ↔ b = true) : a = b := Bool.eq_iff_iff.2 h
theorem not_has {L : List Dl} {u : Int} (h : ¬ hasP L u = true) : hasP L u = false := by simpa using h
theorem Qok.new {n : Int} (h1 : 1 ≤ n) (h2 : n ≤ 32) : Qok (newQ n) := ⟨h1, h2, by simp [newQ]; omega, okM.nil, okL.nil, okL.nil, fun t h => by simp [newQ, hasP] at h, fun h => rfl, fun h => rfl, fun t => rfl, fun t m h => by simp [newQ] at h⟩
theorem sendE_zero {M : Qs} {t p : Int} {m : Int × Int} (h : sendE M t p m = 0) : (mayT t && mayP p) = true ∧ mayM m.2 = true ∧ wAny M t = false := by
  unfold sendE refE at h
  split at h
  · rename_i h1
    split at h
    · omega
    · rename_i h2
      simp at h1
      simp [h1]
      simpa using h2
  · omega
theorem recE_zero {M : Qs} {t p : Int} (h : recE M t p = 0) : (mayT t && mayP p) = true ∧ wAny M t = false := by
  unfold recE refE at h
  split at h
  · rename_i h1
    split at h
    · omega
    · rename_i h2
      simp at h1
      simp [h1]
      simpa using h2
  · omega
theorem okM.put {L : Ml} (h : okM L) {m : Int × Int} (hm : mayM m.2 = true) : okM (putM L m) := fun x hx => by
  simp [mayM] at hm
  rcases putM_mem.1 hx with rfl | hx
  · exact hm
  · exact h x hx
theorem set_some {F : MF} {t u : Int} {v : Option (Int × Int)} : (setF F t v u) = if u = t then v else F u := rfl
theorem Qok.send {M : Qs} (h : Qok M) {t p : Int} {m : Int × Int} (hE : sendE M t p m = 0) : Qok (sendM M t p m) := by
  obtain ⟨ha, hm, hw⟩ := sendE_zero hE
  simp only [wAny, Bool.or_eq_false_iff] at hw
  unfold sendM
  split
  · rename_i hb
    have hL : M.L = [] := Classical.byContradiction fun hn => by rw [h.noR hn, fst_nilB] at hb; cases hb
    exact ⟨h.lo, h.hi, h.len, h.msg, h.s, h.r.take, fun u hu => not_has fun hx => (by have := ((has_take hb u).1 hx).1; rw [h.ap u hu] at this; cases this), fun hn => absurd hL hn, h.noS, h.fs, h.fm⟩
  · rename_i hb
    have hr := fst_no h.r (by simpa using hb)
    split
    · rename_i hf
      have hl : (M.L.length : Int) = M.n := by simpa [Qs.full] using hf
      refine ⟨h.lo, h.hi, h.len, h.msg, h.s.put _ _, h.r, fun u hu => (by show hasP M.r u = false; rw [hr]; rfl), fun _ => hr, fun hx => ?_, fun u => ?_, fun u x hx => ?_⟩
      · simp only at hx
        omega
      · show (setF M.f t (some m) u).isSome = hasP (putL M.s t p) u
        rw [set_some]
        refine bool_iff ?_
        rw [has_put ha hw.1]
        split
        · simp_all
        · rw [h.fs u]
          simp_all
      · simp only [set_some] at hx
        split at hx
        · cases hx
          exact hm
        · exact h.fm u x hx
    · rename_i hf
      have hl : (M.L.length : Int) ≠ M.n := by simpa [Qs.full] using hf
      have h1 := h.len
      exact ⟨h.lo, h.hi, by simp only [putM_len]; omega, h.msg.put hm, h.s, h.r, h.ap, fun _ => hr, fun _ => h.noS (by omega), h.fs, h.fm⟩
theorem Qok.recv {M : Qs} (h : Qok M) {t p : Int} (hE : recE M t p = 0) : Qok (recM M t p) := by
  obtain ⟨ha, hw⟩ := recE_zero hE
  simp only [wAny, Bool.or_eq_false_iff] at hw
  unfold recM
  cases hL : M.L with
  | nil =>
    have hs : M.s = [] := h.noS (by rw [hL]; have := h.lo; simp; omega)
    dsimp only
    exact ⟨h.lo, h.hi, by have := h.lo; simp; omega, okM.nil, h.s, h.r.put _ _, fun u hu => (by simp only [hs] at hu; cases hu), fun hn => absurd rfl hn, fun _ => hs, h.fs, h.fm⟩
  | cons x Z =>
    have hr : M.r = [] := h.noR (by rw [hL]; simp)
    have hk : okM Z := fun y hy => h.msg y (by rw [hL]; simp [hy])
    have h1 := h.len
    rw [hL] at h1
    simp only [List.length_cons] at h1
    unfold letM
    dsimp only
    split
    · rename_i hb
      have hi := fst_in h.s hb
      have hq := h.fs (fstT M.s)
      rw [hi.2] at hq
      obtain ⟨m, hm⟩ := Option.isSome_iff_exists.1 hq
      rw [hm]
      refine ⟨h.lo, h.hi, by simp only [putM_len]; omega, hk.put (h.fm _ _ hm), h.s.take, h.r, fun u hu => (by show hasP M.r u = false; rw [hr]; rfl), fun _ => hr, fun hx => ?_, fun u => ?_, fun u y hx => ?_⟩
      · simp only [putM_len, Option.getD_some] at hx
        have := h.noS (by rw [hL]; simp; omega)
        rw [this, fst_nilB] at hb
        cases hb
      · show (setF M.f (fstT M.s) none u).isSome = hasP (takeL M.s) u
        rw [set_some]
        refine bool_iff ?_
        rw [has_take hb]
        split
        · simp_all
        · rw [h.fs u]
          simp_all
      · simp only [set_some] at hx
        split at hx
        · cases hx
        · exact h.fm u y hx
    · rename_i hb
      have hs := fst_no h.s (by simpa using hb)
      exact ⟨h.lo, h.hi, by simp only; omega, hk, h.s, h.r, h.ap, fun _ => hr, fun _ => hs, h.fs, h.fm⟩
theorem Qok.le {M : Qs} (h : Qok M) (t : Int) : Qok (leM M t) := by
  unfold leM
  by_cases hm : hasP M.s t = true
  · have hT := has_may h.s hm
    rw [if_pos hm, if_pos (by rw [lvE_eq hT, if_pos hm])]
    refine ⟨h.lo, h.hi, h.len, h.msg, h.s.lv _, h.r, fun u hu => h.ap u (lvL_off hu), h.noR, fun hx => ?_, fun u => ?_, fun u y hx => ?_⟩
    · have := h.noS hx
      rw [this] at hm
      cases hm
    · show (setF M.f t none u).isSome = hasP (lvL M.s t) u
      rw [set_some]
      refine bool_iff ?_
      rw [has_lv hT]
      split
      · simp_all
      · rw [h.fs u]
        simp_all
    · simp only [set_some] at hx
      split at hx
      · cases hx
      · exact h.fm u y hx
  · rw [if_neg hm]
    have hn := not_has hm
    have hf : (if lvE M.r t = 0 then setF M.f t none else M.f) = M.f := by
      split
      · funext u
        rw [set_some]
        split
        · rename_i e
          subst e
          have := h.fs u
          rw [hn] at this
          simp at this
          exact this.symm
        · rfl
      · rfl
    rw [hf]
    exact ⟨h.lo, h.hi, h.len, h.msg, h.s, h.r.lv _, fun u hu => not_has fun hx => (by have := lvL_off hx; rw [h.ap u hu] at this; cases this), fun hx => by show lvL M.r t = []; rw [h.noR hx]; unfold lvL; split <;> rfl, h.noS, h.fs, h.fm⟩
theorem Qok.ch {M : Qs} (h : Qok M) (t p : Int) : Qok (chM M t p) := by
  unfold chM
  split
  · rename_i hm
    exact ⟨h.lo, h.hi, h.len, h.msg, h.s.chg _ _, h.r, fun u hu => h.ap u (chgL_off hu), h.noR, fun hx => (by have := h.noS hx; rw [this] at hm; cases hm), fun u => (h.fs u).trans (has_chg t p u).symm, h.fm⟩
  · exact ⟨h.lo, h.hi, h.len, h.msg, h.s, h.r.chg _ _, fun u hu => not_has fun hx => (by have := chgL_off hx; rw [h.ap u hu] at this; cases this), fun hx => by show chgL M.r t p = []; rw [h.noR hx, chgL_same rfl], h.noS, h.fs, h.fm⟩
end Go.Proofs.Ytllkopekfanfaaa

/- The reference: Send and Receive, whole. -/
namespace Go.Proofs.Ytllkopekfanfaaa
open Go.RowKit Go.Shelf Go.Lib Go.Sort Go.Maps
attribute [local go_sem] Oper.semAt_some

variable {w w' : World} {rb sb tb : Nat} {V : Value} {Rl : Ml} {g : Nat → Int × Int} {M : Qs} {B : Option Nat}
theorem Ri.llen (h : Ri w rb sb tb V Rl g M) : M.L.length = Rl.length := by rw [← h.ord]; exact ordM_len h.msg
theorem rsend_any (h : Rq w rb sb tb B M) (ok : Qok M) (t pr : Int) (m : Int × Int) : Calls Try.prog 29 #[.pointer (some ⟨rb, 0, none⟩), .int .i64 t, .int .i64 pr, .agg #[.int .i64 m.1, .int .i64 m.2]] w fun e w' => e = .returned (.tuple #[sendVV M t pr m, .int .i64 (sendE M t pr m)]) ∧ Rto w w' rb sb tb B (sendMM M t pr m) := by
  obtain ⟨V, Rl, g, rfl, hi⟩ := h
  obtain ⟨m1, m2⟩ := m
  unfold sendVV sendMM
  by_cases hE : sendE M t pr (m1, m2) = 0
  · obtain ⟨ha, hm, hw⟩ := sendE_zero hE
    rw [if_pos hE, if_pos hE, hE]
    unfold sendV sendM
    cases hb : fstB M.r with
    | true => exact rsend_one hi t pr m1 m2 ha hm hw hb
    | false =>
      have hl := hi.llen
      have h1 := ok.len
      by_cases hf : M.full = true
      · rw [hf]
        have := rsend_three hi t pr m1 m2 ha hm hw hb (by simp [Qs.full] at hf; omega)
        simpa using this
      · have hf' : M.full = false := by simpa using hf
        rw [hf']
        have := rsend_two hi t pr m1 m2 ha hm hw hb (by simp [Qs.full] at hf; omega) ok.hi
        simpa using this
  · rw [if_neg hE, if_neg hE]
    unfold sendE refE at hE ⊢
    cases ha : (mayT t && mayP pr) with
    | false =>
      have e : ((mayP pr && mayM m2) && mayT t) = false := by
        simp only [Bool.and_eq_false_iff] at ha ⊢
        rcases ha with ha | ha <;> simp [ha]
      simp only [e]
      exact rsend_b1 hi t pr m1 m2 ha
    | true =>
      cases hm : mayM m2 with
      | false =>
        simp only [Bool.and_false, Bool.false_and]
        exact rsend_b2 hi t pr m1 m2 ha hm
      | true =>
        simp only [Bool.and_eq_true] at ha
        simp only [hm, ha.1, ha.2, Bool.and_self, if_true] at hE ⊢
        have hw : wAny M t = true := by simpa using hE
        rw [hw]
        exact rsend_b3 hi t pr m1 m2 (by simp [ha]) hm hw
theorem rrec_any (h : Rq w rb sb tb B M) (ok : Qok M) (t pr : Int) : Calls Try.prog 30 #[.pointer (some ⟨rb, 0, none⟩), .int .i64 t, .int .i64 pr] w fun e w' => e = .returned (.tuple #[recVV M t pr, .int .i64 (recE M t pr)]) ∧ Rto w w' rb sb tb B (recMM M t pr) := by
  obtain ⟨V, Rl, g, rfl, hi⟩ := h
  unfold recVV recMM
  by_cases hE : recE M t pr = 0
  · obtain ⟨ha, hw⟩ := recE_zero hE
    rw [if_pos hE, if_pos hE, hE]
    unfold recV recM
    cases hL : M.L with
    | nil =>
      have := rrec_one hi t pr ha hw hL
      rw [hL] at this
      exact this
    | cons x Z =>
      obtain ⟨x1, x2⟩ := x
      unfold letM letT
      dsimp only
      cases hb : fstB M.s with
      | false =>
        have := rrec_two hi t pr ha hw x1 x2 Z hL hb
        simpa [letM, hb] using this
      | true =>
        have hin := fst_in ok.s hb
        obtain ⟨tn, htn⟩ : ∃ tn : Nat, fstT M.s = tn := ⟨(fstT M.s).toNat, by omega⟩
        have ht := hi.tie tn (by omega) (by rw [← htn]; exact hin.2)
        have := rrec_three hi t pr ha hw x1 x2 Z hL hb tn htn (by omega) (ok.fm _ _ ht) (fun u hu hp => by
          have hq := (has_take hb u).1 hp
          rw [set_some, if_neg (by rw [← htn]; exact hq.2)]
          exact hi.tie u hu hq.1)
        rw [htn, ht]
        simpa using this
  · rw [if_neg hE, if_neg hE]
    unfold recE refE at hE ⊢
    cases ha : (mayT t && mayP pr) with
    | false =>
      rw [Bool.and_comm] at ha
      simp only [ha]
      exact rrec_b1 hi t pr (by rw [Bool.and_comm]; exact ha)
    | true =>
      have ha' := ha
      rw [Bool.and_comm] at ha
      simp only [ha, if_true] at hE ⊢
      have hw : wAny M t = true := by simpa using hE
      rw [hw]
      exact rrec_b2 hi t pr ha' hw
theorem rleave_q (h : Rq w rb sb tb B M) (t : Int) : Calls Try.prog 31 #[.pointer (some ⟨rb, 0, none⟩), .int .i64 t] w fun e w' => e = .returned (.int .i64 (leE M t)) ∧ Rto w w' rb sb tb B (leM M t) := by
  obtain ⟨V, Rl, g, rfl, hi⟩ := h
  exact rleave_any hi t
theorem rchange_q (h : Rq w rb sb tb B M) (t pr : Int) : Calls Try.prog 32 #[.pointer (some ⟨rb, 0, none⟩), .int .i64 t, .int .i64 pr] w fun e w' => e = .returned (.int .i64 (chE M t pr)) ∧ Rto w w' rb sb tb B (chM M t pr) := by
  obtain ⟨V, Rl, g, rfl, hi⟩ := h
  exact rchange_any hi t pr
end Go.Proofs.Ytllkopekfanfaaa
