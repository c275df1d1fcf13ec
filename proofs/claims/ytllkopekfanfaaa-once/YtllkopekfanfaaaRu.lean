/- The reference: Leave, Change. -/
import Derived.BigQuiet
import Derived.Deep.RegionHeldLaw
import Derived.Deep.RegionWith
import Derived.Test.YtllkopekfanfaaaRs
import Derived.Test.YtllkopekfanfaaaRcJ
namespace Go.Proofs.Ytllkopekfanfaaa
open Go.RowKit Go.Shelf Go.Lib Go.Sort Go.Maps
attribute [local go_sem] Oper.semAt_some

variable {w w' : World} {rb sb tb : Nat} {V : Value} {Rl : Ml} {g : Nat → Int × Int} {M : Qs} {B : Option Nat}
theorem Ri.rto {w2 : World} {M' : Qs} (h : Ri w2 rb sb tb V Rl g M') (hk : Kp w w2 [rb, sb, tb]) : Rto w w2 rb sb tb V.ownBlock M' := ⟨V.ownBlock, h.rq, fun _ e => .inl e, hk⟩
theorem has_delP (L : List Dl) (t u : Int) : hasP (delP L t) u = true ↔ hasP L u = true ∧ u ≠ t := by
  rw [mem_has, mem_has]
  unfold delP
  constructor
  · rintro ⟨x, hx, rfl⟩
    have := List.mem_filter.1 hx
    exact ⟨⟨x, this.1, rfl⟩, by simpa using this.2⟩
  · rintro ⟨⟨x, hx, rfl⟩, hne⟩
    exact ⟨x, List.mem_filter.2 ⟨hx, by simpa using hne⟩, rfl⟩
theorem lvL_off {L : List Dl} {t u : Int} (h : hasP (lvL L t) u = true) : hasP L u = true := by
  unfold lvL at h
  split at h
  · exact ((has_delP _ _ _).1 h).1
  · exact h
theorem chgL_off {L : List Dl} {t p u : Int} (h : hasP (chgL L t p) u = true) : hasP L u = true := by
  unfold chgL at h
  split at h
  · split at h
    · rw [mem_map_has, ch_keys, ← mem_map_has] at h
      exact h
    · exact h
  · exact h
theorem lvL_same {L : List Dl} {t : Int} (h : hasP L t = false) : lvL L t = L := by
  unfold lvL
  split
  · exact del_none h
  · rfl
theorem chgL_same {L : List Dl} {t p : Int} (h : hasP L t = false) : chgL L t p = L := by
  unfold chgL
  rw [h]
  split <;> rfl
theorem le_arg {M : Qs} {t : Int} (h : mayT t = false) : leE M t = 2 ∧ leM M t = M := by
  unfold leE leM lvE lvL
  rw [h]
  simp
theorem ch_arg {M : Qs} {t p : Int} (h : (mayT t && mayP p) = false) : chE M t p = 2 ∧ chM M t p = M := by
  unfold chE chM chgE chgL
  rw [h]
  simp
theorem lvE_eq {L : List Dl} {t : Int} (h : mayT t = true) : lvE L t = if hasP L t then 0 else 6 := by
  unfold lvE
  rw [if_pos h]
theorem chgE_eq {L : List Dl} {t p : Int} (h : (mayT t && mayP p) = true) : chgE L t p = if hasP L t then 0 else 6 := by
  unfold chgE
  rw [if_pos h]
theorem tie_del {L : List Dl} {f : MF} {g : Nat → Int × Int} {t : Int} (h : ∀ u : Nat, u < 16 → hasP L u = true → f u = some (g u)) (hm : mayT t = true) (u : Nat) (hu : u < 16) (hp : hasP (lvL L t) u = true) : setF f t none u = some (g u) := by
  have h1 := lvL_off hp
  unfold setF
  by_cases e : (u : Int) = t
  · exfalso
    unfold lvL at hp
    rw [if_pos hm] at hp
    exact ((has_delP _ _ _).1 hp).2 e
  · rw [if_neg e]
    exact h u hu h1
theorem tie_off {L : List Dl} {f : MF} {g : Nat → Int × Int} {t : Int} (h : ∀ u : Nat, u < 16 → hasP L u = true → f u = some (g u)) (hn : hasP L t = false) (u : Nat) (hu : u < 16) (hp : hasP L u = true) : setF f t none u = some (g u) := by
  unfold setF
  by_cases e : (u : Int) = t
  · rw [e, hn] at hp
    cases hp
  · rw [if_neg e]
    exact h u hu hp
theorem Ri.withf {f' : MF} (h : Ri w rb sb tb V Rl g M) (ht : ∀ u : Nat, u < 16 → hasP M.s u = true → f' u = some (g u)) : Ri w rb sb tb V Rl g { M with f := f' } := ⟨h.hh, h.ms, h.ord, h.msg, h.rs, h.rr, h.os, h.or, h.ne, ht, h.len⟩
set_option maxRecDepth 100000 in
/-- Leave. -/
theorem rleave_any (h : Ri w rb sb tb V Rl g M) (t : Int) : Calls Try.prog 31 #[.pointer (some ⟨rb, 0, none⟩), .int .i64 t] w fun e w' => e = .returned (.int .i64 (leE M t)) ∧ Rto w w' rb sb tb V.ownBlock (leM M t) := by
  have HA := hid (ask_any w rb t 1)
  have H := hid h
  have c2 := h.c2
  have C3 := hid (fun (z : World) (hk : Ri z rb sb tb V Rl g M) => hk.c3)
  have HL := hid (rlv_any w sb _ t h.rs h.os)
  have HR := hid (fun (z : World) (hk : Ri z rb sb tb V Rl g M) => rlv_any z tb _ t hk.rr hk.or)
  unfold askE at HA
  rw [show mayP 1 = true from rfl, Bool.and_true] at HA
  clear h
  cases hm : mayT t with
  | false =>
    rw [hm] at HA
    rw [(le_arg hm).1, (le_arg hm).2]
    simp only [Bool.false_eq_true, if_false] at HA
    go_enter Try.func31, Try.ntmps31
    go_wp2_with fail
    refine HA.out.mono ?_
    rintro e w1 ⟨rfl, hw⟩; obtain rfl := hw.symm
    go_wp2
    go_ret
    exact ⟨rfl, Rto.stay H.out.rq (Kp.refl _ _)⟩
  | true =>
    rw [hm] at HA
    simp only [if_true] at HA
    rw [lvE_eq hm] at HL
    simp only [lvE_eq hm] at HR
    unfold leE leM
    cases hs : hasP M.s t with
    | true =>
      simp only [if_true]
      rw [lvE_eq hm, hs]
      rw [hs] at HL
      simp only [if_true] at HL ⊢
      have HM := hid hm
      clear hs hm
      go_enter Try.func31, Try.ntmps31
      go_wp2_with fail
      refine HA.out.mono ?_
      rintro e w1 ⟨rfl, hw⟩; obtain rfl := hw.symm
      go_wp2_with fail
      refine HL.out.mono ?_
      rintro e w2 ⟨rfl, h1⟩
      have hX := H.out.sets (f' := setF M.f t none) h1 (H.out.os.lv _) (fun u hu hp => tie_del H.out.tie HM.out u hu hp)
      have HX := hid (hX.1.rto hX.2)
      clear h1 hX
      go_wp2
      go_ret
      exact ⟨rfl, HX.out⟩
    | false =>
      simp only [Bool.false_eq_true, if_false]
      rw [hs, lvL_same hs] at HL
      simp only [Bool.false_eq_true, if_false] at HL
      rw [lvE_eq hm]
      have HN := hid hs
      cases hr : hasP M.r t with
      | true =>
        rw [hr] at HR
        simp only [if_true] at HR ⊢
        clear hs hm hr
        go_enter Try.func31, Try.ntmps31
        go_wp2_with fail
        refine HA.out.mono ?_
        rintro e w1 ⟨rfl, hw⟩; obtain rfl := hw.symm
        go_wp2_with fail
        refine HL.out.mono ?_
        rintro e w2 ⟨rfl, h1⟩
        have hX := H.out.sets (f' := M.f) h1 H.out.os (fun u hu hp => H.out.tie u hu hp)
        have c3 := C3.out _ hX.1
        have HR2 := HR.out _ hX.1
        have HX := hid hX
        clear h1 hX
        go_wp2_with fail
        refine HR2.mono ?_
        rintro e w3 ⟨rfl, h3⟩
        have hY := (HX.out.1.setr h3 (HX.out.1.or.lv _)).1.withf (f' := setF M.f t none) (fun u hu hp => tie_off H.out.tie HN.out u hu hp)
        have HY := hid (hY.rto (HX.out.2.trans (HX.out.1.setr h3 (HX.out.1.or.lv _)).2))
        clear h3 hY
        go_wp2
        go_ret
        exact ⟨rfl, HY.out⟩
      | false =>
        rw [hr] at HR
        rw [lvL_same hr] at HR ⊢
        simp only [Bool.false_eq_true, if_false] at HR ⊢
        rw [if_neg (by decide)]
        clear hs hm hr
        go_enter Try.func31, Try.ntmps31
        go_wp2_with fail
        refine HA.out.mono ?_
        rintro e w1 ⟨rfl, hw⟩; obtain rfl := hw.symm
        go_wp2_with fail
        refine HL.out.mono ?_
        rintro e w2 ⟨rfl, h1⟩
        have hX := H.out.sets (f' := M.f) h1 H.out.os (fun u hu hp => H.out.tie u hu hp)
        have c3 := C3.out _ hX.1
        have HR2 := HR.out _ hX.1
        have HX := hid hX
        clear h1 hX
        go_wp2_with fail
        refine HR2.mono ?_
        rintro e w3 ⟨rfl, h3⟩
        have HY := hid ((HX.out.1.setr h3 HX.out.1.or).1.rto (HX.out.2.trans (HX.out.1.setr h3 HX.out.1.or).2))
        clear h3
        go_wp2
        go_ret
        exact ⟨rfl, HY.out⟩
set_option maxRecDepth 100000 in
/-- Change. -/
theorem rchange_any (h : Ri w rb sb tb V Rl g M) (t pr : Int) : Calls Try.prog 32 #[.pointer (some ⟨rb, 0, none⟩), .int .i64 t, .int .i64 pr] w fun e w' => e = .returned (.int .i64 (chE M t pr)) ∧ Rto w w' rb sb tb V.ownBlock (chM M t pr) := by
  have HA := hid (ask_any w rb t pr)
  have H := hid h
  have c2 := h.c2
  have C3 := hid (fun (z : World) (hk : Ri z rb sb tb V Rl g M) => hk.c3)
  have HL := hid (rchg_any w sb _ t pr h.rs h.os)
  have HR := hid (fun (z : World) (hk : Ri z rb sb tb V Rl g M) => rchg_any z tb _ t pr hk.rr hk.or)
  unfold askE at HA
  clear h
  cases hm : (mayT t && mayP pr) with
  | false =>
    rw [hm] at HA
    rw [(ch_arg hm).1, (ch_arg hm).2]
    simp only [Bool.false_eq_true, if_false] at HA
    go_enter Try.func32, Try.ntmps32
    go_wp2_with fail
    refine HA.out.mono ?_
    rintro e w1 ⟨rfl, hw⟩; obtain rfl := hw.symm
    go_wp2
    go_ret
    exact ⟨rfl, Rto.stay H.out.rq (Kp.refl _ _)⟩
  | true =>
    rw [hm] at HA
    simp only [if_true] at HA
    rw [chgE_eq hm] at HL
    simp only [chgE_eq hm] at HR
    unfold chE chM
    cases hs : hasP M.s t with
    | true =>
      simp only [if_true]
      rw [chgE_eq hm, hs]
      rw [hs] at HL
      simp only [if_true] at HL ⊢
      clear hs hm
      go_enter Try.func32, Try.ntmps32
      go_wp2_with fail
      refine HA.out.mono ?_
      rintro e w1 ⟨rfl, hw⟩; obtain rfl := hw.symm
      go_wp2_with fail
      refine HL.out.mono ?_
      rintro e w2 ⟨rfl, h1⟩
      have hX := H.out.sets (f' := M.f) h1 (H.out.os.chg _ _) (fun u hu hp => H.out.tie u hu (chgL_off hp))
      have HX := hid (hX.1.rto hX.2)
      clear h1 hX
      go_wp2
      go_ret
      exact ⟨rfl, HX.out⟩
    | false =>
      simp only [Bool.false_eq_true, if_false]
      rw [hs, chgL_same hs] at HL
      simp only [Bool.false_eq_true, if_false] at HL
      rw [chgE_eq hm]
      cases hr : hasP M.r t with
      | true =>
        rw [hr] at HR
        simp only [if_true] at HR ⊢
        clear hs hm hr
        go_enter Try.func32, Try.ntmps32
        go_wp2_with fail
        refine HA.out.mono ?_
        rintro e w1 ⟨rfl, hw⟩; obtain rfl := hw.symm
        go_wp2_with fail
        refine HL.out.mono ?_
        rintro e w2 ⟨rfl, h1⟩
        have hX := H.out.sets (f' := M.f) h1 H.out.os (fun u hu hp => H.out.tie u hu hp)
        have c3 := C3.out _ hX.1
        have HR2 := HR.out _ hX.1
        have HX := hid hX
        clear h1 hX
        go_wp2_with fail
        refine HR2.mono ?_
        rintro e w3 ⟨rfl, h3⟩
        have HY := hid ((HX.out.1.setr h3 (HX.out.1.or.chg _ _)).1.rto (HX.out.2.trans (HX.out.1.setr h3 (HX.out.1.or.chg _ _)).2))
        clear h3
        go_wp2
        go_ret
        exact ⟨rfl, HY.out⟩
      | false =>
        rw [hr] at HR
        rw [chgL_same hr] at HR ⊢
        simp only [Bool.false_eq_true, if_false] at HR ⊢
        clear hs hm hr
        go_enter Try.func32, Try.ntmps32
        go_wp2_with fail
        refine HA.out.mono ?_
        rintro e w1 ⟨rfl, hw⟩; obtain rfl := hw.symm
        go_wp2_with fail
        refine HL.out.mono ?_
        rintro e w2 ⟨rfl, h1⟩
        have hX := H.out.sets (f' := M.f) h1 H.out.os (fun u hu hp => H.out.tie u hu hp)
        have c3 := C3.out _ hX.1
        have HR2 := HR.out _ hX.1
        have HX := hid hX
        clear h1 hX
        go_wp2_with fail
        refine HR2.mono ?_
        rintro e w3 ⟨rfl, h3⟩
        have HY := hid ((HX.out.1.setr h3 HX.out.1.or).1.rto (HX.out.2.trans (HX.out.1.setr h3 HX.out.1.or).2))
        clear h3
        go_wp2
        go_ret
        exact ⟨rfl, HY.out⟩
end Go.Proofs.Ytllkopekfanfaaa
