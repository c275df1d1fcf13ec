/- The reference: a condition. -/
import Derived.Test.YtpkjnjhbgjgfaaaCy
import Derived.BigQuiet
namespace Go.Proofs.Ytpkjnjhbgjgfaaa
open Go.RowKit Go.Shelf Go.Lib Go.Sort Go.Maps
attribute [local go_sem] Oper.semAt_some

/-- The reference's condition (60) at block rb, its list at block q. -/
def Rm (w : World) (rb q : Nat) (m : Int) (L : List Dl) : Prop :=
  w.heap[rb]? = some (.cells #[.pointer (some ⟨q, 0, none⟩), .int .i64 m] 60 (0, 0)) ∧ Rf w q L
variable {w w' : World} {rb q : Nat} {m : Int} {L : List Dl}
theorem Rf.has58 {w : World} {q : Nat} {L : List Dl} (h : Rf w q L) : ∃ c, w.heap[q]? = some (.cells c 58 (0, 0)) := by
  obtain ⟨v, hb, -⟩ := h
  exact ⟨_, hb⟩
theorem Rm.ne (h : Rm w rb q m L) : rb ≠ q := by
  rintro rfl
  obtain ⟨c, hc⟩ := h.2.has58
  have := h.1
  rw [hc] at this
  simp at this
theorem Rm.lt (h : Rm w rb q m L) : rb < w.heap.size ∧ q < w.heap.size := ⟨lt_of_block h.1, h.2.lt⟩
theorem Rm.kind (h : Rm w rb q m L) : ∀ k ∈ [rb, q], ∀ c, w.heap[k]? ≠ some (.cells c 77 (0, 0)) := by
  intro k hk c
  obtain ⟨d, hc⟩ := h.2.has58
  simp at hk
  rcases hk with rfl | rfl
  · rw [h.1]; simp
  · rw [hc]; simp
theorem Rf.stay {w w' : World} {q : Nat} {L : List Dl} (h : Rf w q L) {rs : List Nat} (hk : Kp w w' rs) (hq : q ∉ rs) (hr : ∀ k ∈ rs, ∀ c, w.heap[k]? ≠ some (.cells c 77 (0, 0))) : Rf w' q L := by
  obtain ⟨v, hb, hd⟩ := h
  refine ⟨v, (hk.block q (lt_of_block hb) hq).trans hb, hd.kp hk fun g hg hm => ?_⟩
  obtain ⟨-, cur, hc⟩ := owns_block hd hg
  exact hr g hm _ hc
theorem Rm.keep (h : Rm w rb q m L) {rs : List Nat} (hk : Kp w w' rs) (h1 : rb ∉ rs) (h2 : q ∉ rs) (hr : ∀ k ∈ rs, ∀ c, w.heap[k]? ≠ some (.cells c 77 (0, 0))) : Rm w' rb q m L :=
  ⟨(hk.block rb h.lt.1 h1).trans h.1, h.2.stay hk h2 hr⟩
theorem Rm.same (h : Rm w rb q m L) (hk : Kp w w' []) : Rm w' rb q m L := h.keep hk (by simp) (by simp) (by simp)
/-- What a call leaves of it. -/
def Rto (w w' : World) (rb q : Nat) (m : Int) (L : List Dl) : Prop := ∃ q', Rm w' rb q' m L ∧ (q' = q ∨ w.heap.size ≤ q') ∧ Kp w w' [rb, q]
theorem Rto.stay (h : Rm w rb q m L) (hk : Kp w w' []) : Rto w w' rb q m L := ⟨q, h.same hk, .inl rfl, hk.nil⟩
theorem set_two0 {w : World} {b : Nat} {u v x : Value} {t : TypeId} (h : w.heap[b]? = some (.cells #[u, v] t (0, 0))) : (w.setCell ⟨b, 0, none⟩ x).heap[b]? = some (.cells #[x, v] t (0, 0)) := by
  rw [heap_setCell_same w b 0 _ t x h]
  rfl
/-- Its list has changed in place. -/
theorem rto_of_rt {M : List Dl} (h : Rm w rb q m L) (hr : Rt w w' q M) : Rto w w' rb q m M :=
  ⟨q, ⟨(hr.2.block rb h.lt.1 (by simp; exact h.ne)).trans h.1, hr.1⟩, .inl rfl, hr.2.mono (fun k hk _ => by simp at hk; simp [hk])⟩
set_option maxRecDepth 100000 in
theorem rcopy_any (w : World) (q : Nat) (L : List Dl) (h : Rf w q L) (hok : okL L) : Calls Try.prog 47 #[.pointer (some ⟨q, 0, none⟩)] w fun e w' => ∃ c, e = .returned (.pointer (some ⟨c, 0, none⟩)) ∧ w.heap.size ≤ c ∧ Rf w' c L ∧ Kp w w' [] := by
  obtain ⟨v, hb, hd⟩ := h
  obtain ⟨ao, cap, rfl⟩ := hd.slice
  obtain ⟨N, hN⟩ : ∃ N, L.length = N := ⟨_, rfl⟩
  rw [hN] at hb
  have HD := hid hd
  rw [hN] at HD
  have HN := hid hN
  have hlen : L.length ≤ 16 := hok.len
  have cc := cell_one hb
  clear hb hd hN hok
  go_enter Try.func47, Try.ntmps47
  go_wp2_with (refine wpList_joinD rfl _ _ rfl w.heap.size 0 (.slice none 0 0) _ [] L rfl (Dr.nil _ _) rfl HD.out (by simp) (by omega) (Nat.le_refl _) ?_; intro v2 w2 hN2 hG2; rw [List.nil_append] at hN2; obtain ⟨ao2, cp2, hv2⟩ := hN2.slice; obtain ⟨n2, hn2⟩ : ∃ n2, L.length = n2 := ⟨_, rfl⟩; rw [hn2] at hv2; subst hv2; have K2 := hid (Kp.ofGrown (rows := []) hG2 (by intro g hg; simp [Value.ownBlock] at hg)); have N2 := hid hN2; clear hN2 hG2 hn2)
  have ka := Kp.alloc w2 (.cells #[.slice ao2 n2 cp2] 58) []
  have HX := hid (show w.heap.size ≤ w2.heap.size ∧ Rf (w2.alloc (.cells #[.slice ao2 n2 cp2] 58)) w2.heap.size L ∧ Kp w (w2.alloc (.cells #[.slice ao2 n2 cp2] 58)) [] from
    ⟨K2.out.size, ⟨_, heap_alloc_new w2 _, (N2.out.low (Nat.zero_le _)).keep ka⟩, K2.out.trans ka⟩)
  clear ka
  go_ret
  exact ⟨_, rfl, HX.out⟩
set_option maxRecDepth 100000 in
/-- New. -/
theorem rnew (w : World) : Calls Try.prog 8 #[] w fun e w' => ∃ rb, e = .returned (.pointer (some ⟨rb, 0, none⟩)) ∧ ∃ q, Rm w' rb q 0 [] ∧ w.heap.size ≤ rb ∧ w.heap.size ≤ q ∧ Kp w w' [] := by
  have ka := Kp.alloc w (.cells #[.slice none 0 0] 58) []
  have kb := Kp.alloc (w.alloc (.cells #[.slice none 0 0] 58)) (.cells #[.pointer (some ⟨w.heap.size, 0, none⟩), .int .i64 0] 60) []
  have e1 : (w.alloc (.cells #[.slice none 0 0] 58)).heap.size = w.heap.size + 1 := by simp
  have HX := hid (show Rm ((w.alloc (.cells #[.slice none 0 0] 58)).alloc (.cells #[.pointer (some ⟨w.heap.size, 0, none⟩), .int .i64 0] 60)) (w.heap.size + 1) w.heap.size 0 [] ∧ w.heap.size ≤ w.heap.size + 1 ∧ w.heap.size ≤ w.heap.size ∧ Kp w ((w.alloc (.cells #[.slice none 0 0] 58)).alloc (.cells #[.pointer (some ⟨w.heap.size, 0, none⟩), .int .i64 0] 60)) [] from
    ⟨⟨by have := heap_alloc_new (w.alloc (.cells #[.slice none 0 0] 58)) (.cells #[.pointer (some ⟨w.heap.size, 0, none⟩), .int .i64 0] 60); rw [e1] at this; exact this, Rf.keep ⟨_, heap_alloc_new w _, Dr.nil _ _⟩ kb⟩, by omega, Nat.le_refl _, ka.trans kb⟩)
  clear ka kb e1
  go_enter Try.func8, Try.ntmps8
  go_wp2
  go_ret
  exact ⟨_, rfl, _, HX.out⟩
/-- What the reference's cells are. -/
theorem Rm.cells (h : Rm w rb q m L) : ∃ ao cap, ∀ z, Kp w z [] → z.cell? ⟨rb, 0, none⟩ = some (.pointer (some ⟨q, 0, none⟩)) ∧ z.cell? ⟨rb, 1, none⟩ = some (.int .i64 m) ∧ z.cell? ⟨q, 0, none⟩ = some (.slice ao L.length cap) ∧ z.frozen? ⟨rb, 0, none⟩ = false ∧ z.frozen? ⟨rb, 1, none⟩ = false := by
  obtain ⟨hb, v, hq, hd⟩ := h
  obtain ⟨ao, cap, rfl⟩ := hd.slice
  refine ⟨ao, cap, fun z hk => ?_⟩
  have hz := (hk.block rb (lt_of_block hb) (by simp)).trans hb
  have hy := (hk.block q (lt_of_block hq) (by simp)).trans hq
  exact ⟨cell_two0 hz, cell_two1 hz, cell_one hy, free_two hz 0, free_two hz 1⟩
set_option maxRecDepth 100000 in
/-- Mutex. -/
theorem rmutex (w : World) (rb q : Nat) (m : Int) (L : List Dl) (h : Rm w rb q m L) : Calls Try.prog 32 #[.pointer (some ⟨rb, 0, none⟩)] w fun e w' => e = .returned (.tuple #[.int .i64 (muT m L), .bool (muB L)]) ∧ w' = w := by
  obtain ⟨ao, cap, hc⟩ := h.cells
  obtain ⟨c0, c1, c2, -, -⟩ := hc w (Kp.refl _ _)
  clear hc h
  cases L with
  | nil =>
    rw [show muT m [] = 0 from rfl, show muB [] = false from rfl]
    rw [List.length_nil] at c2
    go_enter Try.func32, Try.ntmps32
    go_wp2
    go_ret2
    exact ⟨rfl, rfl⟩
  | cons x Z =>
    rw [show muT m (x :: Z) = m from rfl, show muB (x :: Z) = true from rfl]
    have hz : (((x :: Z).length : Int) == 0) = false := by simp; omega
    generalize (x :: Z).length = N at c2 hz
    go_enter Try.func32, Try.ntmps32
    go_wp2
    go_ret2
    exact ⟨rfl, rfl⟩
set_option maxRecDepth 100000 in
set_option maxHeartbeats 1000000 in
/-- Same. -/
theorem rsame (w : World) (rb q rb2 q2 : Nat) (m u : Int) (L M : List Dl) (h1 : Rm w rb q m L) (h2 : Rm w rb2 q2 u M) (hl : L.length ≤ 16) (hm : M.length ≤ 16) : Calls Try.prog 13 #[.pointer (some ⟨rb, 0, none⟩), .pointer (some ⟨rb2, 0, none⟩)] w fun e w' => e = .returned (.bool (decide (muT m L = muT u M) && decide (L = M))) ∧ Kp w w' [] := by
  have HP := hid (rmutex w rb q m L h1)
  have HQ := hid (rmutex w rb2 q2 u M h2)
  have a0 := cell_two0 h1.1
  have b0 := cell_two0 h2.1
  have CC := hid (fun (z : World) (hk : Kp w z []) => And.intro (hk.cell a0 (by simp)) (hk.cell b0 (by simp)))
  have HS := hid (fun (z : World) (hk : Kp w z []) => rsame_any z q q2 L M (h1.2.keep hk) (h2.2.keep hk) hl hm)
  clear h1 h2 hl hm
  generalize decide (L = M) = S at HS ⊢
  generalize muT m L = mu1 at HP ⊢
  generalize muT u M = mu2 at HQ ⊢
  generalize muB L = b1 at HP
  generalize muB M = b2 at HQ
  by_cases hvu : mu1 = mu2
  · have hd : decide (mu1 = mu2) = true := by simp [hvu]
    have he : (mu1 == mu2) = true := by simp [hvu]
    rw [hd, Bool.true_and]
    clear hd hvu
    go_enter Try.func13, Try.ntmps13
    go_wp2_with fail
    refine HP.out.mono ?_
    rintro e w1 ⟨rfl, hw⟩; obtain rfl := hw.symm
    go_wp2_with fail
    refine HQ.out.mono ?_
    rintro e w1 ⟨rfl, hw⟩; obtain rfl := hw.symm
    go_wp2_with fail
    go_region_held_law (fun w1 => w1.cell? ⟨rb, 0, none⟩ = some (.pointer (some ⟨q, 0, none⟩)) ∧ w1.cell? ⟨rb2, 0, none⟩ = some (.pointer (some ⟨q2, 0, none⟩)))
      (first
        | exact CC.out _ (Kp.drew _ _)
        | exact CC.out _ ((Kp.drew _ _).trans hK1))
      (first | (go_at_call 38; refine (HS.out _ (Kp.drew _ _)).mono ?_; rintro e z1 ⟨rfl, hK1⟩) | fail)
    have HK := hid ((Kp.drew w []).trans hK1)
    clear hK1
    go_wp2
    go_ret
    exact ⟨rfl, HK.out⟩
  · have hd : decide (mu1 = mu2) = false := by simp [hvu]
    have he : (mu1 == mu2) = false := by simp [hvu]
    rw [hd, Bool.false_and]
    clear hvu
    go_enter Try.func13, Try.ntmps13
    go_wp2_with fail
    refine HP.out.mono ?_
    rintro e w1 ⟨rfl, hw⟩; obtain rfl := hw.symm
    go_wp2_with fail
    refine HQ.out.mono ?_
    rintro e w1 ⟨rfl, hw⟩; obtain rfl := hw.symm
    go_wp2_with fail
    go_quiet (fail)
    go_wp2
    go_ret
    exact ⟨rfl, Kp.drewN _ _ _⟩
theorem put_arg {L : List Dl} {t p : Int} : (putE L t p = 2 ↔ (mayT t && mayP p) = false) ∧ ((mayT t && mayP p) = true → putE L t p = if hasP L t then 7 else 0) := by
  unfold putE
  cases h : (mayT t && mayP p)
  · simp
  · cases hasP L t <;> simp
set_option maxRecDepth 100000 in
set_option maxHeartbeats 1000000 in
/-- Wait. -/
theorem rwait (w : World) (rb q : Nat) (m : Int) (L : List Dl) (t p u : Int) (h : Rm w rb q m L) (hok : okL L) : Calls Try.prog 26 #[.pointer (some ⟨rb, 0, none⟩), .int .i64 t, .int .i64 p, .int .i64 u] w fun e w' => e = .returned (.int .i64 (cwE m L t p u)) ∧ Rto w w' rb q (cwM m L t p u) (cwL m L t p u) := by
  have HC := hid (rcopy_any w q L h.2 hok)
  have HP := hid (fun (z : World) (c : Nat) (hz : Rf z c L) => rput_any z c L t p hz hok)
  have HM := hid h
  obtain ⟨ao, cap, hcells⟩ := h.cells
  have HA := hid hcells
  have HLT := hid h.lt
  have a0 := (hcells w (Kp.refl _ _)).1
  clear h hok hcells
  by_cases g0 : putE L t p = 2
  · have e : cwE m L t p u = 2 := by unfold cwE; rw [if_neg]; rw [put_arg.1.1 g0]; simp
    obtain ⟨e1, e2⟩ := cw_no (show cwE m L t p u ≠ 0 by rw [e]; decide)
    rw [e, e1, e2]
    rw [g0] at HP
    generalize putL L t p = PL at HP
    clear e e1 e2 g0
    go_enter Try.func26, Try.ntmps26
    go_wp2_with fail
    refine HC.out.mono ?_
    rintro e z1 ⟨c, rfl, hc, hz, hk⟩
    have H1 := hid (And.intro hc hk)
    have HZ := hid hz
    clear hc hz hk a0
    go_wp2_with fail
    refine (HP.out z1 c HZ.out).mono ?_
    rintro e z2 ⟨rfl, hr⟩
    have K2 := hid (show Kp w z2 [] from H1.out.2.past hr.2 (fun k hk hl => by have := H1.out.1; simp at hk; omega))
    clear hr
    go_wp2
    go_ret
    exact ⟨rfl, Rto.stay HM.out K2.out⟩
  by_cases g1 : u < 0
  · have e : cwE m L t p u = 2 := by unfold cwE; rw [if_neg]; simp; intro _ _; omega
    obtain ⟨e1, e2⟩ := cw_no (show cwE m L t p u ≠ 0 by rw [e]; decide)
    rw [e, e1, e2]
    have d0 : (putE L t p == 2) = false := by simp [g0]
    have d1 : decide (u < 0) = true := decide_eq_true g1
    generalize putL L t p = PL at HP
    generalize putE L t p = PE at HP d0
    clear e e1 e2 g0 g1
    go_enter Try.func26, Try.ntmps26
    go_wp2_with fail
    refine HC.out.mono ?_
    rintro e z1 ⟨c, rfl, hc, hz, hk⟩
    have H1 := hid (And.intro hc hk)
    have HZ := hid hz
    clear hc hz hk a0
    go_wp2_with fail
    refine (HP.out z1 c HZ.out).mono ?_
    rintro e z2 ⟨rfl, hr⟩
    have K2 := hid (show Kp w z2 [] from H1.out.2.past hr.2 (fun k hk hl => by have := H1.out.1; simp at hk; omega))
    clear hr
    go_wp2
    go_ret
    exact ⟨rfl, Rto.stay HM.out K2.out⟩
  have d1 : decide (u < 0) = false := decide_eq_false g1
  have hmay : (mayT t && mayP p) = true := by
    cases hh : (mayT t && mayP p)
    · exact absurd (put_arg.1.2 hh) g0
    · rfl
  have hE : cwE m L t p u = if hasP L t || (!L.isEmpty && !(m == u)) then 7 else 0 := by unfold cwE; rw [if_pos]; rw [hmay]; simp; omega
  have hPE := (put_arg (L := L)).2 hmay
  clear g0 g1 hmay
  cases hh : hasP L t
  · rw [hh] at hE hPE
    simp only [Bool.false_or, Bool.false_eq_true, if_false] at hE hPE
    rw [hPE] at HP
    by_cases hb : L.isEmpty = false ∧ (m == u) = false
    · have e : cwE m L t p u = 7 := by rw [hE, hb.1, hb.2]; rfl
      obtain ⟨e1, e2⟩ := cw_no (show cwE m L t p u ≠ 0 by rw [e]; decide)
      rw [e, e1, e2]
      have hmu := hb.2
      have hlen : (0 : Int) < L.length := by
        have := hb.1
        cases L with
        | nil => cases this
        | cons x Z => simp
      generalize putL L t p = PL at HP
      generalize L.length = N at HA hlen
      clear hb hE hPE e e1 e2 hh
      go_enter Try.func26, Try.ntmps26
      go_wp2_with fail
      refine HC.out.mono ?_
      rintro e z1 ⟨c, rfl, hc, hz, hk⟩
      have H1 := hid (And.intro hc hk)
      have HZ := hid hz
      clear hc hz hk a0
      go_wp2_with fail
      refine (HP.out z1 c HZ.out).mono ?_
      rintro e z2 ⟨rfl, hr⟩
      have K2 := hid (show Kp w z2 [] from H1.out.2.past hr.2 (fun k hk hl => by have := H1.out.1; simp at hk; omega))
      obtain ⟨c0, c1, c2, -, -⟩ := HA.out z2 K2.out
      clear hr
      go_wp2
      go_ret
      exact ⟨rfl, Rto.stay HM.out K2.out⟩
    · have e : cwE m L t p u = 0 := by
        rw [hE, if_neg]
        intro hx
        simp at hx
        exact hb ⟨by simp [hx.1], by simp [hx.2]⟩
      obtain ⟨e1, e2⟩ := cw_yes e
      rw [e, e1, e2]
      have FIN := hid (fun (z2 : World) (c : Nat) (hc : w.heap.size ≤ c) (hk : Kp w z2 []) (hr : Rf z2 c (putL L t p)) => (show Rto w ((z2.setCell ⟨rb, 0, none⟩ (.pointer (some ⟨c, 0, none⟩))).setCell ⟨rb, 1, none⟩ (.int .i64 u)) rb q u (putL L t p) from by
        have hz := (hk.block rb HLT.out.1 (by simp)).trans HM.out.1
        have k1 := Kp.setCell z2 ⟨rb, 0, none⟩ (.pointer (some ⟨c, 0, none⟩))
        have k2 := Kp.setCell (z2.setCell ⟨rb, 0, none⟩ (.pointer (some ⟨c, 0, none⟩))) ⟨rb, 1, none⟩ (.int .i64 u)
        have hne : c ≠ rb := by have := HLT.out.1; omega
        refine ⟨c, ⟨set_two1 (set_two0 hz), (hr.stay (k1.trans k2) (by simp; exact hne) (fun k hk c' => ?_))⟩, .inr hc, hk.nil.trans ((k1.trans k2).mono (fun k hk _ => by simp at hk; simp [hk]))⟩
        simp at hk
        rw [hk, hz]
        simp))
      generalize putL L t p = PL at HP FIN ⊢
      have hor : ((0 : Int) < L.length) = False ∨ (((0 : Int) < L.length) = True ∧ (m == u) = true) := by
        cases L with
        | nil => exact .inl (by simp)
        | cons x Z =>
          refine .inr ⟨by simp, ?_⟩
          cases hmu : (m == u)
          · exact absurd ⟨rfl, hmu⟩ hb
          · rfl
      generalize L.length = N at HA hor
      clear hb hE hPE e e1 e2 hh
      rcases hor with hN | ⟨hN, hmu⟩
      · have hN' : ¬ (0 : Int) < N := by rw [hN]; simp
        clear hN
        go_enter Try.func26, Try.ntmps26
        go_wp2_with fail
        refine HC.out.mono ?_
        rintro e z1 ⟨c, rfl, hc, hz, hk⟩
        have H1 := hid (And.intro hc hk)
        have HZ := hid hz
        clear hc hz hk a0
        go_wp2_with fail
        refine (HP.out z1 c HZ.out).mono ?_
        rintro e z2 ⟨rfl, hr⟩
        have HR := hid hr.1
        have K2 := hid (show Kp w z2 [] from H1.out.2.past hr.2 (fun k hk hl => by have := H1.out.1; simp at hk; omega))
        obtain ⟨c0, c1, c2, f0, f1⟩ := HA.out z2 K2.out
        clear hr
        go_wp2
        go_ret
        exact ⟨rfl, FIN.out z2 c H1.out.1 K2.out HR.out⟩
      · have hN' : (0 : Int) < N := by rw [hN]; trivial
        clear hN
        go_enter Try.func26, Try.ntmps26
        go_wp2_with fail
        refine HC.out.mono ?_
        rintro e z1 ⟨c, rfl, hc, hz, hk⟩
        have H1 := hid (And.intro hc hk)
        have HZ := hid hz
        clear hc hz hk a0
        go_wp2_with fail
        refine (HP.out z1 c HZ.out).mono ?_
        rintro e z2 ⟨rfl, hr⟩
        have HR := hid hr.1
        have K2 := hid (show Kp w z2 [] from H1.out.2.past hr.2 (fun k hk hl => by have := H1.out.1; simp at hk; omega))
        obtain ⟨c0, c1, c2, f0, f1⟩ := HA.out z2 K2.out
        clear hr
        go_wp2
        go_ret
        exact ⟨rfl, FIN.out z2 c H1.out.1 K2.out HR.out⟩
  · rw [hh] at hE hPE
    simp only [Bool.true_or, if_true] at hE hPE
    rw [hPE] at HP
    obtain ⟨e1, e2⟩ := cw_no (show cwE m L t p u ≠ 0 by rw [hE]; decide)
    rw [hE, e1, e2]
    generalize putL L t p = PL at HP
    clear hE hPE e1 e2 hh
    go_enter Try.func26, Try.ntmps26
    go_wp2_with fail
    refine HC.out.mono ?_
    rintro e z1 ⟨c, rfl, hc, hz, hk⟩
    have H1 := hid (And.intro hc hk)
    have HZ := hid hz
    clear hc hz hk a0
    go_wp2_with fail
    refine (HP.out z1 c HZ.out).mono ?_
    rintro e z2 ⟨rfl, hr⟩
    have K2 := hid (show Kp w z2 [] from H1.out.2.past hr.2 (fun k hk hl => by have := H1.out.1; simp at hk; omega))
    clear hr
    go_wp2
    go_ret
    exact ⟨rfl, Rto.stay HM.out K2.out⟩
end Go.Proofs.Ytpkjnjhbgjgfaaa
