/- Leave, Change. -/
import Derived.Test.YtcfjlmkeomiiaaaLa
namespace Go.Proofs.Ytcfjlmkeomiiaaa
open Go.RowKit Go.Shelf Go.Lib Go.Sort Go.Maps
attribute [local go_sem] Oper.semAt_some

theorem lvE_no {L : List Dl} {t : Int} (h : hasP L t = false) : lvE L t ≠ 0 ∧ lvL L t = L := by
  unfold lvE lvL
  rw [h, del_none h]
  refine ⟨?_, ?_⟩
  · split <;> simp
  · split <;> rfl
theorem lvE_yes {L : List Dl} (hL : okL L) {t : Int} (h : hasP L t = true) : lvE L t = 0 := by
  obtain ⟨x, hx, rfl⟩ := mem_has.1 h
  have := (hL.rng x hx).1
  unfold lvE
  rw [if_pos (by simp [mayT]; omega), h]
  rfl
theorem chgE_no {L : List Dl} {t p : Int} (h : hasP L t = false) : chgE L t p ≠ 0 ∧ chgL L t p = L := by
  unfold chgE chgL
  rw [h]
  refine ⟨?_, ?_⟩
  · split <;> simp
  · split <;> rfl
theorem chg_arg {L : List Dl} {t p : Int} (h : (mayT t && mayP p) = false) : chgE L t p = 2 ∧ chgL L t p = L := by
  unfold chgE chgL
  rw [h]
  exact ⟨rfl, rfl⟩
theorem le_same {M : Lk} {t : Int} (h : leE M t ≠ 0) : leK M t = M := by
  unfold leE at h
  split at h
  · exact absurd rfl h
  · rename_i hn
    have h1 : lvE M.r t ≠ 0 := fun e => hn (.inl e)
    have h2 : lvE M.q t ≠ 0 := fun e => hn (.inr e)
    have key : ∀ L : List Dl, lvE L t ≠ 0 → lvL L t = L := fun L hL => by
      unfold lvE at hL
      unfold lvL
      split
      · rename_i hm
        rw [if_pos hm] at hL
        split at hL
        · exact absurd rfl hL
        · rename_i hh
          exact del_none (by simpa using hh)
      · rfl
    unfold leK
    rw [key _ h1, key _ h2]
theorem ch_same {M : Lk} {t p : Int} (h : chgEL M t p ≠ 0) : chK M t p = M := by
  unfold chgEL at h
  split at h
  · exact absurd rfl h
  · rename_i hn
    have h1 : chgE M.r t p ≠ 0 := fun e => hn (.inl e)
    have h2 : chgE M.q t p ≠ 0 := fun e => hn (.inr e)
    have key : ∀ L : List Dl, chgE L t p ≠ 0 → chgL L t p = L := fun L hL => by
      unfold chgE at hL
      unfold chgL
      split
      · rename_i hm
        rw [if_pos hm] at hL
        split at hL
        · exact absurd rfl hL
        · rename_i hh
          rw [if_neg hh]
      · rfl
    unfold chK
    rw [key _ h1, key _ h2]
theorem le_q {M : Lk} (hm : Lmid M) {t : Int} (h : hasP M.q t = true) : leE M t = lvE M.q t ∧ leK M t = { M with q := lvL M.q t } := by
  have hr : hasP M.r t = false := by
    cases hb : hasP M.r t
    · rfl
    · rw [hm.ap t hb] at h; cases h
  unfold leE leK
  rw [lvE_yes hm.qk h, (lvE_no hr).2]
  exact ⟨by simp, rfl⟩
theorem le_r {M : Lk} {t : Int} (h : hasP M.q t = false) : leE M t = lvE M.r t ∧ leK M t = { M with r := lvL M.r t } := by
  unfold leE leK
  rw [(lvE_no h).2]
  refine ⟨?_, rfl⟩
  split
  · rename_i hx
    rcases hx with hx | hx
    · exact hx.symm
    · exact absurd hx (lvE_no h).1
  · rfl
theorem ch_q {M : Lk} (hm : Lmid M) {t p : Int} (h : hasP M.q t = true) : chgEL M t p = chgE M.q t p ∧ chK M t p = { M with q := chgL M.q t p } := by
  have hr : hasP M.r t = false := by
    cases hb : hasP M.r t
    · rfl
    · rw [hm.ap t hb] at h; cases h
  unfold chgEL chK
  rw [(chgE_no hr).2]
  refine ⟨?_, rfl⟩
  split
  · rename_i hx
    rcases hx with hx | hx
    · exact absurd hx (chgE_no hr).1
    · exact hx.symm
  · rename_i hx
    cases hb : (mayT t && mayP p)
    · rw [(chg_arg hb).1, (chg_arg hb).1]
    · exfalso
      apply hx
      right
      unfold chgE
      rw [hb, h]
      rfl
theorem ch_r {M : Lk} {t p : Int} (h : hasP M.q t = false) : chgEL M t p = chgE M.r t p ∧ chK M t p = { M with r := chgL M.r t p } := by
  unfold chgEL chK
  rw [(chgE_no h).2]
  refine ⟨?_, rfl⟩
  split
  · rename_i hx
    rcases hx with hx | hx
    · exact hx.symm
    · exact absurd hx (chgE_no h).1
  · rfl
theorem le_eq (M : Lk) (t : Int) : leO M t = lO (leE M t) (leK M t) ∧ leM M t = lM (leE M t) (leK M t) := by
  unfold leO leM lO lM
  by_cases hE : leE M t = 0
  · rw [if_pos hE, if_pos hE, if_pos hE]
    exact ⟨rfl, rfl⟩
  · rw [if_neg hE, if_neg hE, if_neg hE, le_same hE]
    exact ⟨rfl, rfl⟩
theorem ch_eq (M : Lk) (t p : Int) : chO M t p = lO (chgEL M t p) (chK M t p) ∧ chM M t p = lM (chgEL M t p) (chK M t p) := by
  unfold chO chM lO lM
  by_cases hE : chgEL M t p = 0
  · rw [if_pos hE, if_pos hE, if_pos hE]
    exact ⟨rfl, rfl⟩
  · rw [if_neg hE, if_neg hE, if_neg hE, ch_same hE]
    exact ⟨rfl, rfl⟩
set_option maxRecDepth 100000 in
/-- Leave. -/
theorem lleave (w : World) (lb : Nat) (R : List Nat) (M : Lk) (t : Int) (h : Lc w lb R M) (hm : Lmid M) (ht : i64 t) : Calls Try.prog 22 #[.pointer (some ⟨lb, 0, none⟩), .int .i64 t] w fun e w' => ∃ ao cap, e = .returned (.tuple #[.slice ao (leO M t ).length cap, .int .i64 (leE M t )]) ∧ Tl w w' lb R (leM M t ) (.slice ao (leO M t ).length cap) (leO M t ) := by
  rw [(le_eq M t ).1, (le_eq M t ).2]
  have hmid := hm.le t 
  obtain ⟨mb, a, b, Ra, Rb, rfl, h⟩ := h
  have HLt := hid (fun (z : World) (R1 : List Nat) (hz : Lc z lb R1 (leK M t )) => let_any z lb R1 _ (leE M t ) hz hmid)
  cases hq : hasP M.q t
  · obtain ⟨e1, e2⟩ := le_r (M := M) (t := t) hq
    have HO := hid (lof_no w lb mb a b Ra Rb M t h ht hq)
    have HV := hid (h.wr.lv t )
    have HX := hid (fun (z : World) (R2 : List Nat) (x1 : Wr z a R2 (lvL M.r t )) (x2 : Nw w Ra R2) (x3 : Kp w z Ra) => (show To w z lb (lb :: mb :: (Ra ++ Rb)) (leK M t ) from by rw [e2]; exact to_readers h x1 x2 x3))
    rw [← e1] at HV
    generalize leK M t  = MK at HLt HX ⊢
    generalize leE M t  = E at HLt HV ⊢
    generalize (lO E MK).length = n at HLt ⊢
    clear h hm hmid ht hq e1 e2
    go_enter Try.func22, Try.ntmps22
    go_wp2_with fail
    refine HO.out.mono ?_
    rintro e w1 ⟨rfl, hw⟩; obtain rfl := hw.symm
    go_wp2_with fail
    refine HV.out.mono ?_
    rintro e w1 ⟨rfl, R2, x1, x2, x3⟩
    have T1 := hid (HX.out w1 R2 x1 x2 x3)
    clear x1 x2 x3
    obtain ⟨R3, s3, n3, k3⟩ := T1.out
    have HL3 := hid (HLt.out w1 R3 s3)
    have N3 := hid (And.intro n3 k3)
    clear s3 n3 k3
    go_wp2_with fail
    refine HL3.out.mono ?_
    rintro e w2 ⟨ao, cap, rfl, hl⟩
    have FIN := hid (show Tl w w2 lb (lb :: mb :: (Ra ++ Rb)) (lM E MK) (.slice ao n cap) (lO E MK) from by
      obtain ⟨hn, R2, s2, n2, k2, f2⟩ := hl
      refine ⟨hn.low N3.out.2.size, R2, s2, N3.out.1.trans n2 N3.out.2.size, N3.out.2.past k2 (fun k hk hl => ?_), f2⟩
      rcases N3.out.1 k hk with q | q
      · exact q
      · omega)
    clear hl
    go_wp2
    go_ret2
    exact ⟨ao, cap, rfl, FIN.out⟩
  · obtain ⟨e1, e2⟩ := le_q hm (t := t) hq
    have HO := hid (lof_yes w lb mb a b Ra Rb M t h ht hq)
    have HV := hid (h.wq.lv t )
    have HX := hid (fun (z : World) (R2 : List Nat) (x1 : Wr z b R2 (lvL M.q t )) (x2 : Nw w Rb R2) (x3 : Kp w z Rb) => (show To w z lb (lb :: mb :: (Ra ++ Rb)) (leK M t ) from by rw [e2]; exact to_writers h x1 x2 x3))
    rw [← e1] at HV
    generalize leK M t  = MK at HLt HX ⊢
    generalize leE M t  = E at HLt HV ⊢
    generalize (lO E MK).length = n at HLt ⊢
    clear h hm hmid ht hq e1 e2
    go_enter Try.func22, Try.ntmps22
    go_wp2_with fail
    refine HO.out.mono ?_
    rintro e w1 ⟨rfl, hw⟩; obtain rfl := hw.symm
    go_wp2_with fail
    refine HV.out.mono ?_
    rintro e w1 ⟨rfl, R2, x1, x2, x3⟩
    have T1 := hid (HX.out w1 R2 x1 x2 x3)
    clear x1 x2 x3
    obtain ⟨R3, s3, n3, k3⟩ := T1.out
    have HL3 := hid (HLt.out w1 R3 s3)
    have N3 := hid (And.intro n3 k3)
    clear s3 n3 k3
    go_wp2_with fail
    refine HL3.out.mono ?_
    rintro e w2 ⟨ao, cap, rfl, hl⟩
    have FIN := hid (show Tl w w2 lb (lb :: mb :: (Ra ++ Rb)) (lM E MK) (.slice ao n cap) (lO E MK) from by
      obtain ⟨hn, R2, s2, n2, k2, f2⟩ := hl
      refine ⟨hn.low N3.out.2.size, R2, s2, N3.out.1.trans n2 N3.out.2.size, N3.out.2.past k2 (fun k hk hl => ?_), f2⟩
      rcases N3.out.1 k hk with q | q
      · exact q
      · omega)
    clear hl
    go_wp2
    go_ret2
    exact ⟨ao, cap, rfl, FIN.out⟩
set_option maxRecDepth 100000 in
/-- Change. -/
theorem lchange (w : World) (lb : Nat) (R : List Nat) (M : Lk) (t p : Int) (h : Lc w lb R M) (hm : Lmid M) (ht : i64 t) : Calls Try.prog 17 #[.pointer (some ⟨lb, 0, none⟩), .int .i64 t, .int .i64 p] w fun e w' => ∃ ao cap, e = .returned (.tuple #[.slice ao (chO M t p ).length cap, .int .i64 (chgEL M t p )]) ∧ Tl w w' lb R (chM M t p ) (.slice ao (chO M t p ).length cap) (chO M t p ) := by
  rw [(ch_eq M t p ).1, (ch_eq M t p ).2]
  have hmid := hm.ch t p 
  obtain ⟨mb, a, b, Ra, Rb, rfl, h⟩ := h
  have HLt := hid (fun (z : World) (R1 : List Nat) (hz : Lc z lb R1 (chK M t p )) => let_any z lb R1 _ (chgEL M t p ) hz hmid)
  cases hq : hasP M.q t
  · obtain ⟨e1, e2⟩ := ch_r (M := M) (t := t) (p := p) hq
    have HO := hid (lof_no w lb mb a b Ra Rb M t h ht hq)
    have HV := hid (h.wr.chg t p )
    have HX := hid (fun (z : World) (R2 : List Nat) (x1 : Wr z a R2 (chgL M.r t p )) (x2 : Nw w Ra R2) (x3 : Kp w z Ra) => (show To w z lb (lb :: mb :: (Ra ++ Rb)) (chK M t p ) from by rw [e2]; exact to_readers h x1 x2 x3))
    rw [← e1] at HV
    generalize chK M t p  = MK at HLt HX ⊢
    generalize chgEL M t p  = E at HLt HV ⊢
    generalize (lO E MK).length = n at HLt ⊢
    clear h hm hmid ht hq e1 e2
    go_enter Try.func17, Try.ntmps17
    go_wp2_with fail
    refine HO.out.mono ?_
    rintro e w1 ⟨rfl, hw⟩; obtain rfl := hw.symm
    go_wp2_with fail
    refine HV.out.mono ?_
    rintro e w1 ⟨rfl, R2, x1, x2, x3⟩
    have T1 := hid (HX.out w1 R2 x1 x2 x3)
    clear x1 x2 x3
    obtain ⟨R3, s3, n3, k3⟩ := T1.out
    have HL3 := hid (HLt.out w1 R3 s3)
    have N3 := hid (And.intro n3 k3)
    clear s3 n3 k3
    go_wp2_with fail
    refine HL3.out.mono ?_
    rintro e w2 ⟨ao, cap, rfl, hl⟩
    have FIN := hid (show Tl w w2 lb (lb :: mb :: (Ra ++ Rb)) (lM E MK) (.slice ao n cap) (lO E MK) from by
      obtain ⟨hn, R2, s2, n2, k2, f2⟩ := hl
      refine ⟨hn.low N3.out.2.size, R2, s2, N3.out.1.trans n2 N3.out.2.size, N3.out.2.past k2 (fun k hk hl => ?_), f2⟩
      rcases N3.out.1 k hk with q | q
      · exact q
      · omega)
    clear hl
    go_wp2
    go_ret2
    exact ⟨ao, cap, rfl, FIN.out⟩
  · obtain ⟨e1, e2⟩ := ch_q hm (t := t) (p := p) hq
    have HO := hid (lof_yes w lb mb a b Ra Rb M t h ht hq)
    have HV := hid (h.wq.chg t p )
    have HX := hid (fun (z : World) (R2 : List Nat) (x1 : Wr z b R2 (chgL M.q t p )) (x2 : Nw w Rb R2) (x3 : Kp w z Rb) => (show To w z lb (lb :: mb :: (Ra ++ Rb)) (chK M t p ) from by rw [e2]; exact to_writers h x1 x2 x3))
    rw [← e1] at HV
    generalize chK M t p  = MK at HLt HX ⊢
    generalize chgEL M t p  = E at HLt HV ⊢
    generalize (lO E MK).length = n at HLt ⊢
    clear h hm hmid ht hq e1 e2
    go_enter Try.func17, Try.ntmps17
    go_wp2_with fail
    refine HO.out.mono ?_
    rintro e w1 ⟨rfl, hw⟩; obtain rfl := hw.symm
    go_wp2_with fail
    refine HV.out.mono ?_
    rintro e w1 ⟨rfl, R2, x1, x2, x3⟩
    have T1 := hid (HX.out w1 R2 x1 x2 x3)
    clear x1 x2 x3
    obtain ⟨R3, s3, n3, k3⟩ := T1.out
    have HL3 := hid (HLt.out w1 R3 s3)
    have N3 := hid (And.intro n3 k3)
    clear s3 n3 k3
    go_wp2_with fail
    refine HL3.out.mono ?_
    rintro e w2 ⟨ao, cap, rfl, hl⟩
    have FIN := hid (show Tl w w2 lb (lb :: mb :: (Ra ++ Rb)) (lM E MK) (.slice ao n cap) (lO E MK) from by
      obtain ⟨hn, R2, s2, n2, k2, f2⟩ := hl
      refine ⟨hn.low N3.out.2.size, R2, s2, N3.out.1.trans n2 N3.out.2.size, N3.out.2.past k2 (fun k hk hl => ?_), f2⟩
      rcases N3.out.1 k hk with q | q
      · exact q
      · omega)
    clear hl
    go_wp2
    go_ret2
    exact ⟨ao, cap, rfl, FIN.out⟩
end Go.Proofs.Ytcfjlmkeomiiaaa
