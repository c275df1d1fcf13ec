/- The reference's Unlock, Leave, Change. -/
import Derived.Test.YtcfjlmkeomiiaaaRt
import Derived.Test.YtcfjlmkeomiiaaaLb
namespace Go.Proofs.Ytcfjlmkeomiiaaa
open Go.RowKit Go.Shelf Go.Lib Go.Sort Go.Maps
attribute [local go_sem] Oper.semAt_some

/-- What a call of the reference leaves that tells numbers. -/
def Rn (w w' : World) (lb a b : Nat) (M : Lk) (x : Value) (l : List Int) : Prop := Ns w' w.heap.size x l ∧ Rkt w w' lb a b M
theorem Rn.stay {w w' : World} {lb a b : Nat} {M : Lk} (h : Rk w lb a b M) (hk : Kp w w' []) : Rn w w' lb a b M (.slice none 0 0) [] := ⟨Ns.nil _ _, Rkt.stay h hk⟩
theorem Rn.behind {w w1 w2 : World} {lb a b : Nat} {M1 M : Lk} {x : Value} {l : List Int} (h : Rkt w w1 lb a b M1) (hn : Ns w2 w1.heap.size x l) (h' : Rkt w1 w2 lb a b M) : Rn w w2 lb a b M x l := ⟨hn.low h.2.size, h.trans h'⟩
set_option maxRecDepth 100000 in
set_option maxHeartbeats 1000000 in
/-- Unlock. -/
theorem runlock (w : World) (lb a b : Nat) (M : Lk) (t : Int) (h : Rk w lb a b M) (hm : Lmid M) : Calls Try.prog 30 #[.pointer (some ⟨lb, 0, none⟩), .int .i64 t] w fun e w' => ∃ ao cap, e = .returned (.tuple #[.slice ao (unO M t).length cap, .int .i64 (unE M t)]) ∧ Rn w w' lb a b (unM M t) (.slice ao (unO M t).length cap) (unO M t) := by
  have HS := hid h
  have c0 := h.cw
  have f0 := h.free 0
  have refuse : ∀ E, E ≠ 0 → unE M t = E → unO M t = [] ∧ unM M t = M := fun E hE e => by unfold unO unM; rw [e, if_neg hE, if_neg hE]; exact ⟨rfl, rfl⟩
  by_cases h0 : t < 0
  · have e : unE M t = 2 := by unfold unE; rw [if_neg]; simp [mayT]; omega
    rw [(refuse 2 (by decide) e).1, (refuse 2 (by decide) e).2, e]
    clear h hm refuse e
    go_enter Try.func30, Try.ntmps30
    go_wp2
    go_ret2
    exact ⟨none, 0, rfl, Rn.stay HS.out (Kp.refl _ _)⟩
  by_cases h1 : 16 ≤ t
  · have e : unE M t = 2 := by unfold unE; rw [if_neg]; simp [mayT]; omega
    rw [(refuse 2 (by decide) e).1, (refuse 2 (by decide) e).2, e]
    clear h hm refuse e
    go_enter Try.func30, Try.ntmps30
    go_wp2
    go_ret2
    exact ⟨none, 0, rfl, Rn.stay HS.out (Kp.refl _ _)⟩
  have hmt : mayT t = true := by simp [mayT]; omega
  have eE : unE M t = if M.w = t then 0 else if 0 < M.c t.toNat then 0 else 6 := by unfold unE; rw [hmt]; rfl
  have hlt : ∀ E, unE M t = E → E = 0 → unO M t = (letN (unK M t)).1 ∧ unM M t = (letN (unK M t)).2 ∧ Lmid (unK M t) := fun E e h0 => by
    subst h0
    unfold unO unM
    rw [e, if_pos rfl, if_pos rfl]
    exact ⟨rfl, rfl, hm.un e⟩
  by_cases hw : M.w = t
  · have e : unE M t = 0 := by rw [eE, if_pos hw]
    obtain ⟨e1, e2, hm2⟩ := hlt 0 e rfl
    have eK : unK M t = { M with w := -1 } := by unfold unK; rw [if_pos hw]
    rw [e1, e2, e]
    rw [eK] at hm2 ⊢
    have U := hid (h.setW (-1))
    have HL := hid (rlet _ lb a b _ U.out.1 hm2)
    have ex : (M.w == t) = true := by simp [hw]
    clear h hm refuse eE hlt hw e e1 e2 eK hm2
    generalize M.w = X at c0 ex
    generalize letN { M with w := -1 } = Z at HL ⊢
    generalize Z.1.length = m at HL ⊢
    go_enter Try.func30, Try.ntmps30
    go_wp2_with fail
    refine HL.out.mono ?_
    rintro e w2 ⟨ao, cap, rfl, hn, hr⟩
    have FIN := hid (Rn.behind U.out hn hr)
    clear hn hr
    go_wp2
    go_ret2
    exact ⟨ao, cap, rfl, FIN.out⟩
  · have ex : (M.w == t) = false := by simp [hw]
    obtain ⟨n, rfl⟩ := int_nat (show 0 ≤ t by omega)
    have hn : n < 16 := by omega
    have cc := h.ci hn
    have hcs := hm.cs n hn
    rw [Int.toNat_natCast] at eE
    have hn0 : (0 : Int) ≤ n := by omega
    have hn1 : (n : Int) < 16 := by omega
    by_cases hc : 0 < M.c n
    · have e : unE M n = 0 := by rw [eE, if_neg hw, if_pos hc]
      obtain ⟨e1, e2, hm2⟩ := hlt 0 e rfl
      have eK : unK M n = { M with c := updC M.c n (M.c n - 1) } := by unfold unK; rw [if_neg hw, Int.toNat_natCast]
      rw [e1, e2, e]
      rw [eK] at hm2 ⊢
      have hwr : IntKind.i64.wrap (M.c n - 1) = M.c n - 1 := IntWalk.i64_in _ ⟨by omega, by omega⟩
      have cd : w.drew.cell? ⟨lb, 1 + n, none⟩ = some (.int .i64 (M.c n)) := cc
      have fd : w.drew.frozen? ⟨lb, 1 + n, none⟩ = false := (h.same (Kp.drew w [])).free _
      have U := hid (show Rkt w (w.drew.setCell ⟨lb, 1 + n, none⟩ (.int .i64 (M.c n - 1))) lb a b { M with c := updC M.c n (M.c n - 1) } from by
        have := (h.same (Kp.drew w [])).setC hn0 hn1 (M.c n - 1)
        exact ⟨this.1, (Kp.drew w _).trans this.2⟩)
      have HL := hid (rlet _ lb a b _ U.out.1 hm2)
      clear h hm refuse eE hlt hw e e1 e2 eK hm2
      generalize letN { M with c := updC M.c n (M.c n - 1) } = Z at HL ⊢
      generalize ({ M with c := updC M.c n (M.c n - 1) } : Lk) = MM at U
      generalize Z.1.length = m at HL ⊢
      generalize M.w = X at c0 ex
      generalize M.c n = C at *
      go_enter Try.func30, Try.ntmps30
      go_wp2_with fail
      go_region
      go_wp2_with fail
      refine HL.out.mono ?_
      rintro e w2 ⟨ao, cap, rfl, hn, hr⟩
      have FIN := hid (Rn.behind U.out hn hr)
      clear hn hr
      go_wp2
      go_ret2
      exact ⟨ao, cap, rfl, FIN.out⟩
    · have e : unE M n = 6 := by rw [eE, if_neg hw, if_neg hc]
      have hcd : decide (0 < M.c n) = false := decide_eq_false hc
      rw [(refuse 6 (by decide) e).1, (refuse 6 (by decide) e).2, e]
      clear h hm refuse e eE hlt hcs hw
      generalize M.w = X at c0 ex
      generalize M.c n = C at cc hc hcd
      go_enter Try.func30, Try.ntmps30
      go_wp2
      go_ret2
      exact ⟨none, 0, rfl, Rn.stay HS.out (Kp.refl _ _)⟩
set_option maxRecDepth 100000 in
set_option maxHeartbeats 1000000 in
/-- Leave. -/
theorem rleave (w : World) (lb a b : Nat) (M : Lk) (t : Int) (h : Rk w lb a b M) (hm : Lmid M) : Calls Try.prog 31 #[.pointer (some ⟨lb, 0, none⟩), .int .i64 t] w fun e w' => ∃ ao cap, e = .returned (.tuple #[.slice ao (leO M t ).length cap, .int .i64 (leE M t )]) ∧ Rn w w' lb a b (leM M t ) (.slice ao (leO M t ).length cap) (leO M t ) := by
  have c17 := h.cr
  have c18 := h.cq
  have ho := h.off
  have hne := h.ne
  have CC := hid (fun (z : World) (rs : List Nat) (hk : Kp w z rs) (h0 : lb ∉ rs) => And.intro (hk.cell c17 h0) (hk.cell c18 h0))
  have HA := hid (fun (z : World) (hk : Kp w z []) => rlv_any z a M.r t (h.same hk).rr hm.rk)
  have HB := hid (fun (z z' : World) (hk : Kp w z []) (hT : Rt z z' a (lvL M.r t )) => rlv_any z' b M.q t ((h.same hk).setR hT).1.rq hm.qk)
  have HF := hid (fun (z z' z2 : World) (hk : Kp w z []) (hT : Rt z z' a (lvL M.r t )) (hT2 : Rt z' z2 b (lvL M.q t )) => (show Rkt w z2 lb a b (leK M t ) from by
    have h1 := (h.same hk).setR hT
    have h2 := h1.1.setQ hT2
    exact ⟨h2.1, (hk.nil.trans h1.2).trans h2.2⟩))
  have HLT := hid (fun (z : World) (hz : Rk z lb a b (leK M t )) => rlet z lb a b _ hz (hm.le t ))
  have OFF := hid (show lb ∉ [a] ∧ lb ∉ [a, b] from ⟨by simp; exact ho.1, by simp; exact ho⟩)
  have eE : leE M t = if lvE M.r t = 0 ∨ lvE M.q t = 0 then 0 else lvE M.r t  := rfl
  have eR : leE M t ≠ 0 → leK M t = M := le_same
  have eO : leO M t = if leE M t = 0 then (letN (leK M t )).1 else [] := rfl
  have eM : leM M t = if leE M t = 0 then (letN (leK M t )).2 else M := rfl
  rw [eO, eM]
  clear eO eM
  by_cases hE : lvE M.r t = 0 ∨ lvE M.q t = 0
  · rw [eE, if_pos hE, if_pos rfl, if_pos rfl]
    clear eE eR ho hne h hm
    have EX := hid hE
    generalize letN (leK M t ) = Z at HLT ⊢
    generalize leK M t  = MK at HF HLT
    generalize Z.1.length = m at HLT ⊢
    by_cases h1 : lvE M.r t = 0
    · rw [h1] at HA
      generalize lvE M.q t  = E2 at HB
      clear hE h1 EX
      go_enter Try.func31, Try.ntmps31
      go_wp2_with fail
      go_region_held_law (fun w1 => w1.cell? ⟨lb, 17, none⟩ = some (.pointer (some ⟨a, 0, none⟩)) ∧ w1.cell? ⟨lb, 18, none⟩ = some (.pointer (some ⟨b, 0, none⟩)))
        (first
          | exact CC.out _ [] (Kp.drew _ _) (by simp)
          | exact CC.out _ [a] ((Kp.drew _ _).trans hT1.2) OFF.out.1
          | exact CC.out _ [a, b] (((Kp.drew _ _).trans (hT1.2.mono (by simp))).trans (hT2.2.mono (by simp))) OFF.out.2)
        (first
          | (go_at_call 65; have _hh := hT1; refine (HB.out _ _ (Kp.drew _ _) hT1).mono ?_; rintro e y2 ⟨rfl, hT2⟩)
          | (go_at_call 65; refine (HA.out _ (Kp.drew _ _)).mono ?_; rintro e y1 ⟨rfl, hT1⟩)
          | fail)
      have U := hid (HF.out _ _ _ (Kp.drew w []) hT1 hT2)
      clear hT1 hT2 c17 c18
      have HL := hid (HLT.out y2 U.out.1)
      go_wp2_with fail
      refine HL.out.mono ?_
      rintro e w2 ⟨ao, cap, rfl, hn, hr⟩
      have FIN := hid (Rn.behind U.out hn hr)
      clear hn hr
      go_wp2
      go_ret2
      exact ⟨ao, cap, rfl, FIN.out⟩
    · have h2 : lvE M.q t = 0 := hE.resolve_left h1
      rw [h2] at HB
      have b1 : (lvE M.r t  != 0) = true := by simp [h1]
      generalize lvE M.r t  = E1 at HA h1 b1
      clear hE h1 h2 EX
      go_enter Try.func31, Try.ntmps31
      go_wp2_with fail
      go_region_held_law (fun w1 => w1.cell? ⟨lb, 17, none⟩ = some (.pointer (some ⟨a, 0, none⟩)) ∧ w1.cell? ⟨lb, 18, none⟩ = some (.pointer (some ⟨b, 0, none⟩)))
        (first
          | exact CC.out _ [] (Kp.drew _ _) (by simp)
          | exact CC.out _ [a] ((Kp.drew _ _).trans hT1.2) OFF.out.1
          | exact CC.out _ [a, b] (((Kp.drew _ _).trans (hT1.2.mono (by simp))).trans (hT2.2.mono (by simp))) OFF.out.2)
        (first
          | (go_at_call 65; have _hh := hT1; refine (HB.out _ _ (Kp.drew _ _) hT1).mono ?_; rintro e y2 ⟨rfl, hT2⟩)
          | (go_at_call 65; refine (HA.out _ (Kp.drew _ _)).mono ?_; rintro e y1 ⟨rfl, hT1⟩)
          | fail)
      have U := hid (HF.out _ _ _ (Kp.drew w []) hT1 hT2)
      clear hT1 hT2 c17 c18
      have HL := hid (HLT.out y2 U.out.1)
      go_wp2_with fail
      refine HL.out.mono ?_
      rintro e w2 ⟨ao, cap, rfl, hn, hr⟩
      have FIN := hid (Rn.behind U.out hn hr)
      clear hn hr
      go_wp2
      go_ret2
      exact ⟨ao, cap, rfl, FIN.out⟩
  · have hE2 : lvE M.r t ≠ 0 := fun e => hE (.inl e)
    have hE3 : lvE M.q t ≠ 0 := fun e => hE (.inr e)
    have eN : leE M t = lvE M.r t  := by rw [eE, if_neg hE]
    have eK := eR (by rw [eN]; exact hE2)
    rw [eN, if_neg hE2, if_neg hE2]
    rw [eK] at HF
    have b1 : (lvE M.r t  != 0) = true := by simp [hE2]
    have b2 : (lvE M.q t  != 0) = true := by simp [hE3]
    generalize lvE M.r t  = E1 at HA b1 ⊢
    generalize lvE M.q t  = E2 at HB b2
    clear eE eR ho hne h hm hE hE2 hE3 eN eK HLT
    go_enter Try.func31, Try.ntmps31
    go_wp2_with fail
    go_region_held_law (fun w1 => w1.cell? ⟨lb, 17, none⟩ = some (.pointer (some ⟨a, 0, none⟩)) ∧ w1.cell? ⟨lb, 18, none⟩ = some (.pointer (some ⟨b, 0, none⟩)))
      (first
        | exact CC.out _ [] (Kp.drew _ _) (by simp)
        | exact CC.out _ [a] ((Kp.drew _ _).trans hT1.2) OFF.out.1
        | exact CC.out _ [a, b] (((Kp.drew _ _).trans (hT1.2.mono (by simp))).trans (hT2.2.mono (by simp))) OFF.out.2)
      (first
        | (go_at_call 65; have _hh := hT1; refine (HB.out _ _ (Kp.drew _ _) hT1).mono ?_; rintro e y2 ⟨rfl, hT2⟩)
        | (go_at_call 65; refine (HA.out _ (Kp.drew _ _)).mono ?_; rintro e y1 ⟨rfl, hT1⟩)
        | fail)
    have U := hid (HF.out _ _ _ (Kp.drew w []) hT1 hT2)
    clear hT1 hT2 c17 c18
    go_wp2
    go_ret2
    exact ⟨none, 0, rfl, Ns.nil _ _, U.out⟩
set_option maxRecDepth 100000 in
set_option maxHeartbeats 1000000 in
/-- Change. -/
theorem rchange (w : World) (lb a b : Nat) (M : Lk) (t p : Int) (h : Rk w lb a b M) (hm : Lmid M) : Calls Try.prog 32 #[.pointer (some ⟨lb, 0, none⟩), .int .i64 t, .int .i64 p] w fun e w' => ∃ ao cap, e = .returned (.tuple #[.slice ao (chO M t p ).length cap, .int .i64 (chgEL M t p )]) ∧ Rn w w' lb a b (chM M t p ) (.slice ao (chO M t p ).length cap) (chO M t p ) := by
  have c17 := h.cr
  have c18 := h.cq
  have ho := h.off
  have hne := h.ne
  have CC := hid (fun (z : World) (rs : List Nat) (hk : Kp w z rs) (h0 : lb ∉ rs) => And.intro (hk.cell c17 h0) (hk.cell c18 h0))
  have HA := hid (fun (z : World) (hk : Kp w z []) => rchg_any z a M.r t p (h.same hk).rr hm.rk)
  have HB := hid (fun (z z' : World) (hk : Kp w z []) (hT : Rt z z' a (chgL M.r t p )) => rchg_any z' b M.q t p ((h.same hk).setR hT).1.rq hm.qk)
  have HF := hid (fun (z z' z2 : World) (hk : Kp w z []) (hT : Rt z z' a (chgL M.r t p )) (hT2 : Rt z' z2 b (chgL M.q t p )) => (show Rkt w z2 lb a b (chK M t p ) from by
    have h1 := (h.same hk).setR hT
    have h2 := h1.1.setQ hT2
    exact ⟨h2.1, (hk.nil.trans h1.2).trans h2.2⟩))
  have HLT := hid (fun (z : World) (hz : Rk z lb a b (chK M t p )) => rlet z lb a b _ hz (hm.ch t p ))
  have OFF := hid (show lb ∉ [a] ∧ lb ∉ [a, b] from ⟨by simp; exact ho.1, by simp; exact ho⟩)
  have eE : chgEL M t p = if chgE M.r t p = 0 ∨ chgE M.q t p = 0 then 0 else chgE M.r t p  := rfl
  have eR : chgEL M t p ≠ 0 → chK M t p = M := ch_same
  have eO : chO M t p = if chgEL M t p = 0 then (letN (chK M t p )).1 else [] := rfl
  have eM : chM M t p = if chgEL M t p = 0 then (letN (chK M t p )).2 else M := rfl
  rw [eO, eM]
  clear eO eM
  by_cases hE : chgE M.r t p = 0 ∨ chgE M.q t p = 0
  · rw [eE, if_pos hE, if_pos rfl, if_pos rfl]
    clear eE eR ho hne h hm
    have EX := hid hE
    generalize letN (chK M t p ) = Z at HLT ⊢
    generalize chK M t p  = MK at HF HLT
    generalize Z.1.length = m at HLT ⊢
    by_cases h1 : chgE M.r t p = 0
    · rw [h1] at HA
      generalize chgE M.q t p  = E2 at HB
      clear hE h1 EX
      go_enter Try.func32, Try.ntmps32
      go_wp2_with fail
      go_region_held_law (fun w1 => w1.cell? ⟨lb, 17, none⟩ = some (.pointer (some ⟨a, 0, none⟩)) ∧ w1.cell? ⟨lb, 18, none⟩ = some (.pointer (some ⟨b, 0, none⟩)))
        (first
          | exact CC.out _ [] (Kp.drew _ _) (by simp)
          | exact CC.out _ [a] ((Kp.drew _ _).trans hT1.2) OFF.out.1
          | exact CC.out _ [a, b] (((Kp.drew _ _).trans (hT1.2.mono (by simp))).trans (hT2.2.mono (by simp))) OFF.out.2)
        (first
          | (go_at_call 66; have _hh := hT1; refine (HB.out _ _ (Kp.drew _ _) hT1).mono ?_; rintro e y2 ⟨rfl, hT2⟩)
          | (go_at_call 66; refine (HA.out _ (Kp.drew _ _)).mono ?_; rintro e y1 ⟨rfl, hT1⟩)
          | fail)
      have U := hid (HF.out _ _ _ (Kp.drew w []) hT1 hT2)
      clear hT1 hT2 c17 c18
      have HL := hid (HLT.out y2 U.out.1)
      go_wp2_with fail
      refine HL.out.mono ?_
      rintro e w2 ⟨ao, cap, rfl, hn, hr⟩
      have FIN := hid (Rn.behind U.out hn hr)
      clear hn hr
      go_wp2
      go_ret2
      exact ⟨ao, cap, rfl, FIN.out⟩
    · have h2 : chgE M.q t p = 0 := hE.resolve_left h1
      rw [h2] at HB
      have b1 : (chgE M.r t p  != 0) = true := by simp [h1]
      generalize chgE M.r t p  = E1 at HA h1 b1
      clear hE h1 h2 EX
      go_enter Try.func32, Try.ntmps32
      go_wp2_with fail
      go_region_held_law (fun w1 => w1.cell? ⟨lb, 17, none⟩ = some (.pointer (some ⟨a, 0, none⟩)) ∧ w1.cell? ⟨lb, 18, none⟩ = some (.pointer (some ⟨b, 0, none⟩)))
        (first
          | exact CC.out _ [] (Kp.drew _ _) (by simp)
          | exact CC.out _ [a] ((Kp.drew _ _).trans hT1.2) OFF.out.1
          | exact CC.out _ [a, b] (((Kp.drew _ _).trans (hT1.2.mono (by simp))).trans (hT2.2.mono (by simp))) OFF.out.2)
        (first
          | (go_at_call 66; have _hh := hT1; refine (HB.out _ _ (Kp.drew _ _) hT1).mono ?_; rintro e y2 ⟨rfl, hT2⟩)
          | (go_at_call 66; refine (HA.out _ (Kp.drew _ _)).mono ?_; rintro e y1 ⟨rfl, hT1⟩)
          | fail)
      have U := hid (HF.out _ _ _ (Kp.drew w []) hT1 hT2)
      clear hT1 hT2 c17 c18
      have HL := hid (HLT.out y2 U.out.1)
      go_wp2_with fail
      refine HL.out.mono ?_
      rintro e w2 ⟨ao, cap, rfl, hn, hr⟩
      have FIN := hid (Rn.behind U.out hn hr)
      clear hn hr
      go_wp2
      go_ret2
      exact ⟨ao, cap, rfl, FIN.out⟩
  · have hE2 : chgE M.r t p ≠ 0 := fun e => hE (.inl e)
    have hE3 : chgE M.q t p ≠ 0 := fun e => hE (.inr e)
    have eN : chgEL M t p = chgE M.r t p  := by rw [eE, if_neg hE]
    have eK := eR (by rw [eN]; exact hE2)
    rw [eN, if_neg hE2, if_neg hE2]
    rw [eK] at HF
    have b1 : (chgE M.r t p  != 0) = true := by simp [hE2]
    have b2 : (chgE M.q t p  != 0) = true := by simp [hE3]
    generalize chgE M.r t p  = E1 at HA b1 ⊢
    generalize chgE M.q t p  = E2 at HB b2
    clear eE eR ho hne h hm hE hE2 hE3 eN eK HLT
    go_enter Try.func32, Try.ntmps32
    go_wp2_with fail
    go_region_held_law (fun w1 => w1.cell? ⟨lb, 17, none⟩ = some (.pointer (some ⟨a, 0, none⟩)) ∧ w1.cell? ⟨lb, 18, none⟩ = some (.pointer (some ⟨b, 0, none⟩)))
      (first
        | exact CC.out _ [] (Kp.drew _ _) (by simp)
        | exact CC.out _ [a] ((Kp.drew _ _).trans hT1.2) OFF.out.1
        | exact CC.out _ [a, b] (((Kp.drew _ _).trans (hT1.2.mono (by simp))).trans (hT2.2.mono (by simp))) OFF.out.2)
      (first
        | (go_at_call 66; have _hh := hT1; refine (HB.out _ _ (Kp.drew _ _) hT1).mono ?_; rintro e y2 ⟨rfl, hT2⟩)
        | (go_at_call 66; refine (HA.out _ (Kp.drew _ _)).mono ?_; rintro e y1 ⟨rfl, hT1⟩)
        | fail)
    have U := hid (HF.out _ _ _ (Kp.drew w []) hT1 hT2)
    clear hT1 hT2 c17 c18
    go_wp2
    go_ret2
    exact ⟨none, 0, rfl, Ns.nil _ _, U.out⟩
end Go.Proofs.Ytcfjlmkeomiiaaa
