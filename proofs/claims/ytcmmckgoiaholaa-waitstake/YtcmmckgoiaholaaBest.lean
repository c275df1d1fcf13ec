/- best: who is taken is the best of those who came. -/
import Derived.Test.YtcmmckgoiaholaaTplain
import Derived.Test.YtcmmckgoiaholaaDo
import Derived.Deep.RegionHeldLaw
namespace Go.Proofs.Ytcmmckgoiaholaa
open Go.RowKit Go.Shelf Go.Lib Go.Sort Go.Maps

/-- The array of who came when. -/
def cmL (c : Nat → Int) : List Value := (List.range 16).map fun i => .int .i64 (c i)
def Cm (W : World) (cb : Nat) (c : Nat → Int) : Prop := W.heap[cb]? = some (.cells (cmL c).toArray 39 (0, 0))
theorem Cm.cell {W : World} {cb : Nat} {c : Nat → Int} (h : Cm W cb c) {i : Nat} (hi : i < 16) : W.cell? ⟨cb, i, none⟩ = some (.int .i64 (c i)) ∧ W.frozen? ⟨cb, i, none⟩ = false := by
  unfold Cm at h
  refine ⟨?_, by simp [World.frozen?, h]⟩
  simp [World.cell?, h, cmL, hi]
theorem Cm.keep {W W' : World} {cb : Nat} {c : Nat → Int} (h : Cm W cb c) {rs : List Nat} (hk : Kp W W' rs) (hn : cb ∉ rs) : Cm W' cb c := (hk.block cb (lt_of_block h) hn).trans h
theorem Cm.set {W : World} {cb : Nat} {c : Nat → Int} (h : Cm W cb c) {i : Nat} (hi : i < 16) (x : Int) : Cm (W.setCell ⟨cb, i, none⟩ (.int .i64 x)) cb (updC c i x) := by
  unfold Cm at h ⊢
  rw [heap_setCell_same W cb i _ 39 (.int .i64 x) h]
  congr 2
  apply Array.ext'
  simp only [Array.toList_setIfInBounds]
  apply List.ext_getElem?
  intro j
  rw [List.getElem?_set]
  by_cases q : i = j
  · subst q
    simp [cmL, hi, updC]
  · rw [if_neg q]
    by_cases hj : j < 16
    · have hq : ¬ j = i := fun e => q e.symm
      simp [cmL, hj, updC, hq]
    · simp [cmL, hj]
theorem Wr.notArr {W : World} {wb cb : Nat} {R : List Nat} {L : List Dl} {c : Nat → Int} (h : Wr W wb R L) (hc : Cm W cb c) : cb ∉ R := by
  obtain ⟨pb, V, rfl, h⟩ := h
  unfold Cm at hc
  obtain ⟨P, hP, -⟩ := h.mp
  obtain ⟨es, cl, hp⟩ := hP.obj
  intro hk
  simp only [rows, List.mem_cons, Option.mem_toList] at hk
  rcases hk with rfl | rfl | hk
  · rw [h.hh] at hc; simp at hc
  · rw [hp] at hc; simp at hc
  · obtain ⟨cur, hcu⟩ := h.own hk
    rw [hcu] at hc; simp at hc
/-- The state of WaitsTake. -/
structure Tk (w0 W : World) (wb cb : Nat) (L : List Dl) (c : Nat → Int) (n : Int) : Prop where
  ex : ∃ R, Wr W wb R L ∧ ∀ k ∈ R, w0.heap.size ≤ k
  cm : Cm W cb c
  ge : w0.heap.size ≤ cb
  cw : Cw (L.map (·.1)) c n
  kp : Kp w0 W []
theorem Tk.ok {w0 W : World} {wb cb : Nat} {L : List Dl} {c : Nat → Int} {n : Int} (h : Tk w0 W wb cb L c n) : okL L := by
  obtain ⟨R, h1, -⟩ := h.ex
  exact h1.ok
theorem Tk.vw {w0 W : World} {wb cb : Nat} {L : List Dl} {c : Nat → Int} {n : Int} (h : Tk w0 W wb cb L c n) : Vw W (some ⟨wb, 0, none⟩) L := by
  obtain ⟨R, h1, -⟩ := h.ex
  exact h1.vw
theorem Tk.same {w0 W W' : World} {wb cb : Nat} {L : List Dl} {c : Nat → Int} {n : Int} (h : Tk w0 W wb cb L c n) (hk : Kp W W' []) : Tk w0 W' wb cb L c n := by
  obtain ⟨R, h1, h2⟩ := h.ex
  exact ⟨⟨R, h1.same hk, h2⟩, h.cm.keep hk (by simp), h.ge, h.cw, h.kp.trans hk⟩
/-- The list has gone on, the array has not yet. -/
structure Tq (w0 W : World) (wb cb : Nat) (L : List Dl) (c : Nat → Int) : Prop where
  ex : ∃ R, Wr W wb R L ∧ ∀ k ∈ R, w0.heap.size ≤ k
  cm : Cm W cb c
  ge : w0.heap.size ≤ cb
  kp : Kp w0 W []
theorem tq_of {w0 W w' : World} {wb cb : Nat} {L L' : List Dl} {c : Nat → Int} {n : Int} (h : Tk w0 W wb cb L c n) {R : List Nat} (h1 : Wr W wb R L) (h2 : ∀ k ∈ R, w0.heap.size ≤ k) {R' : List Nat} (c1 : Wr w' wb R' L') (c2 : Nw W R R') (c3 : Kp W w' R) : Tq w0 w' wb cb L' c := by
  have hs := h.kp.size
  refine ⟨⟨R', c1, fun k hk => ?_⟩, h.cm.keep c3 (h1.notArr h.cm), h.ge, h.kp.past c3 (fun k hk hl => by have := h2 k hk; omega)⟩
  rcases c2 k hk with q | q
  · exact h2 k q
  · omega
theorem Tq.set {w0 W : World} {wb cb : Nat} {L : List Dl} {c : Nat → Int} (h : Tq w0 W wb cb L c) {i : Nat} (hi : i < 16) {x n : Int} (hw : Cw (L.map (·.1)) (updC c i x) n) : Tk w0 (W.setCell ⟨cb, i, none⟩ (.int .i64 x)) wb cb L (updC c i x) n := by
  obtain ⟨R, h1, h2⟩ := h.ex
  have ks := Kp.setCell W ⟨cb, i, none⟩ (.int .i64 x)
  refine ⟨⟨R, h1.keep ks (fun k hk hm => ?_), h2⟩, h.cm.set hi x, h.ge, hw, h.kp.past ks (fun k hk hl => by simp at hk; have := h.ge; omega)⟩
  simp at hm
  subst hm
  exact h1.notArr h.cm hk
theorem Tq.tk {w0 W : World} {wb cb : Nat} {L : List Dl} {c : Nat → Int} (h : Tq w0 W wb cb L c) {n : Int} (hw : Cw (L.map (·.1)) c n) : Tk w0 W wb cb L c n := ⟨h.ex, h.cm, h.ge, hw, h.kp⟩
theorem okL.keys {L : List Dl} (h : okL L) : ∀ a ∈ L.map (·.1), 0 ≤ a ∧ a < 16 := fun a ha => by
  obtain ⟨x, hx, rfl⟩ := List.mem_map.1 ha
  exact (h.rng x hx).1
set_option maxRecDepth 100000 in
set_option maxHeartbeats 4000000 in
theorem best_any (w0 W : World) (wb cb : Nat) (L : List Dl) (c : Nat → Int) (n : Int) (h : Tk w0 W wb cb L c n) :
    Calls Try.prog 17 #[.pointer (some ⟨wb, 0, none⟩), .pointer (some ⟨cb, 0, none⟩)] W fun e w' => e = .returned (.bool true) ∧ ∃ c', Tk w0 w' wb cb (takeL L) c' n := by
  have H := hid h
  have HOK := hid h.ok
  clear h
  go_enter Try.func17, Try.ntmps17
  go_wp2_with fail
  go_loopw [5, 6, 7] (fun vw vp vt wr => ∃ (t : Nat) (want prio : Int), t ≤ 16 ∧ vt = .int .i64 t ∧ vw = .int .i64 want ∧ vp = .int .i64 prio ∧ Hid (Scn L c t want prio) ∧ Hid (Kp W wr [])) (fun _ _ vt _ => 16 - (intOf vt).toNat)
  case atStart => exact ⟨0, -1, 0, by omega, rfl, rfl, rfl, scn_start L HOK.out c, Kp.refl _ _⟩
  case round =>
    obtain ⟨t, want, prio, ht, rfl, rfl, rfl, hS, hK⟩ := hrel
    by_cases hlt : t < 16
    · have hltI : (t : Int) < 16 := by omega
      have HT := hid (H.out.same hK.out)
      have hct := (HT.out.cm.cell hlt).1
      obtain ⟨x, hx⟩ : ∃ x, c t = x := ⟨_, rfl⟩
      rw [hx] at hct
      have HX := hid hx
      have HP := hid (H.out.cw.pos t hlt)
      obtain ⟨P, hP⟩ : ∃ P, getP L t = P := ⟨_, rfl⟩
      have HPP := hid hP
      clear hx
      have cp := prio_any wr (some ⟨wb, 0, none⟩) L t HT.out.vw (by constructor <;> omega)
      rw [hP] at cp
      clear hP
      cases hB : hasP L t with
      | false =>
        rw [hB] at cp
        have hx0 : ¬ 0 < x := by rw [← HX.out, HP.out]; exact has_none.1 hB
        have S2 := hid (scn_skip hS.out hB)
        clear hB hS
        go_wp2_with fail
        refine cp.mono ?_
        rintro e w1 ⟨rfl, rfl⟩
        go_wp2_with fail
        refine wp_mono (Q := fun e a' W => match e with | .normal => ∃ (t30 t31 t32 t33 t34 t35 t36 t37 t38 t39 t40 t41 t42 t43 t44 t45 t46 t47 t48 t49 t50 t51 t52 : Value), a' = { tmps := #[.pointer (some ⟨wb, 0, none⟩), .pointer (some ⟨cb, 0, none⟩), undef, undef, u4, .int .i64 want, .int .i64 prio, .int .i64 (t : Nat), .int .i64 P, .bool false, undef, undef, .int .i64 (t : Nat), .bool true, u14, u15, .tuple #[.int .i64 P, .bool false], .pointer (some ⟨wb, 0, none⟩), .int .i64 (t : Nat), .tuple #[.int .i64 P, .bool false], .int .i64 P, .bool false, .bool false, .pointer (some ⟨cb, 0, none⟩), .int .i64 (t : Nat), .pointer (some ⟨cb, 0, none⟩), .pointer (some ⟨cb, t, none⟩), .int .i64 x, .bool (decide (0 < x)), .bool (decide (0 < x)), t30, t31, t32, t33, t34, t35, t36, t37, t38, t39, t40, t41, t42, t43, t44, t45, t46, t47, t48, t49, t50, t51, t52, .bool false, u54, u55, undef, undef, undef, undef, undef, undef, undef, undef, undef, undef, undef, undef, undef, undef, undef, undef, undef, undef, undef, undef, undef, undef], defers := [] } ∧ Hid (Kp w1 W []) | _ => False) ?_ ?_
        · skip
          refine wp_region_held_drew (S := fun W : World => W.cell? ⟨cb, t, none⟩ = some (.int .i64 x) ∧ True) (by kernel_rfl) ⟨by simpa using hct, trivial⟩ (fun hHeld => ?_)
          refine wpAnyH_take (i := 0) (v := .bool false) rfl (by kernel_rfl) (by kernel_rfl) (by kernel_rfl) (fun _ _ _ h => h) (Or.inl ⟨by kernel_rfl, fun w _ => by kernel_rfl⟩) hHeld ?_
          refine wpAnyH_take (i := 1) (v := .bool false) rfl (by kernel_rfl) (by kernel_rfl) (by kernel_rfl) (fun _ _ _ h => h) (Or.inl ⟨by kernel_rfl, fun w _ => by kernel_rfl⟩) hHeld ?_
          refine wpAnyH_take (i := 2) (v := undef) rfl (by kernel_rfl) (by kernel_rfl) (by kernel_rfl) (fun _ _ _ h => h) (Or.inr ⟨by kernel_rfl, rfl⟩) hHeld ?_
          refine wpAnyH_take (i := 3) (v := undef) rfl (by kernel_rfl) (by kernel_rfl) (by kernel_rfl) (fun _ _ _ h => h) (Or.inr ⟨by kernel_rfl, rfl⟩) hHeld ?_
          refine wpAnyH_take (i := 4) (v := undef) rfl (by kernel_rfl) (by kernel_rfl) (by kernel_rfl) (fun _ _ _ h => h) (Or.inr ⟨by kernel_rfl, rfl⟩) hHeld ?_
          refine wpAnyH_take (i := 5) (v := undef) rfl (by kernel_rfl) (by kernel_rfl) (by kernel_rfl) (fun _ _ _ h => h) (Or.inr ⟨by kernel_rfl, rfl⟩) hHeld ?_
          refine wpAnyH_take (i := 6) (v := undef) rfl (by kernel_rfl) (by kernel_rfl) (by kernel_rfl) (fun _ _ _ h => h) (Or.inr ⟨by kernel_rfl, rfl⟩) hHeld ?_
          refine wpAnyH_take (i := 7) (v := undef) rfl (by kernel_rfl) (by kernel_rfl) (by kernel_rfl) (fun _ _ _ h => h) (Or.inr ⟨by kernel_rfl, rfl⟩) hHeld ?_
          refine wpAnyH_take (i := 8) (v := undef) rfl (by kernel_rfl) (by kernel_rfl) (by kernel_rfl) (fun _ _ _ h => h) (Or.inr ⟨by kernel_rfl, rfl⟩) hHeld ?_
          refine wpAnyH_take (i := 9) (v := undef) rfl (by kernel_rfl) (by kernel_rfl) (by kernel_rfl) (fun _ _ _ h => h) (Or.inr ⟨by kernel_rfl, rfl⟩) hHeld ?_
          refine wpAnyH_take (i := 10) (v := undef) rfl (by kernel_rfl) (by kernel_rfl) (by kernel_rfl) (fun _ _ _ h => h) (Or.inr ⟨by kernel_rfl, rfl⟩) hHeld ?_
          refine wpAnyH_take (i := 11) (v := undef) rfl (by kernel_rfl) (by kernel_rfl) (by kernel_rfl) (fun _ _ _ h => h) (Or.inr ⟨by kernel_rfl, rfl⟩) hHeld ?_
          refine wpAnyH_take (i := 12) (v := undef) rfl (by kernel_rfl) (by kernel_rfl) (by kernel_rfl) (fun _ _ _ h => h) (Or.inr ⟨by kernel_rfl, rfl⟩) hHeld ?_
          refine wpAnyH_take (i := 13) (v := undef) rfl (by kernel_rfl) (by kernel_rfl) (by kernel_rfl) (fun _ _ _ h => h) (Or.inr ⟨by kernel_rfl, rfl⟩) hHeld ?_
          refine wpAnyH_take (i := 14) (v := undef) rfl (by kernel_rfl) (by kernel_rfl) (by kernel_rfl) (fun _ _ _ h => h) (Or.inr ⟨by kernel_rfl, rfl⟩) hHeld ?_
          refine wpAnyH_take (i := 15) (v := undef) rfl (by kernel_rfl) (by kernel_rfl) (by kernel_rfl) (fun _ _ _ h => h) (Or.inr ⟨by kernel_rfl, rfl⟩) hHeld ?_
          refine wpAnyH_take (i := 16) (v := undef) rfl (by kernel_rfl) (by kernel_rfl) (by kernel_rfl) (fun _ _ _ h => h) (Or.inr ⟨by kernel_rfl, rfl⟩) hHeld ?_
          refine wpAnyH_take (i := 17) (v := undef) rfl (by kernel_rfl) (by kernel_rfl) (by kernel_rfl) (fun _ _ _ h => h) (Or.inr ⟨by kernel_rfl, rfl⟩) hHeld ?_
          refine wpAnyH_take (i := 18) (v := undef) rfl (by kernel_rfl) (by kernel_rfl) (by kernel_rfl) (fun _ _ _ h => h) (Or.inr ⟨by kernel_rfl, rfl⟩) hHeld ?_
          refine wpAnyH_take (i := 19) (v := undef) rfl (by kernel_rfl) (by kernel_rfl) (by kernel_rfl) (fun _ _ _ h => h) (Or.inr ⟨by kernel_rfl, rfl⟩) hHeld ?_
          refine wpAnyH_take (i := 20) (v := undef) rfl (by kernel_rfl) (by kernel_rfl) (by kernel_rfl) (fun _ _ _ h => h) (Or.inr ⟨by kernel_rfl, rfl⟩) hHeld ?_
          refine wpAnyH_take (i := 21) (v := undef) rfl (by kernel_rfl) (by kernel_rfl) (by kernel_rfl) (fun _ _ _ h => h) (Or.inr ⟨by kernel_rfl, rfl⟩) hHeld ?_
          refine wpAnyH_take (i := 22) (v := undef) rfl (by kernel_rfl) (by kernel_rfl) (by kernel_rfl) (fun _ _ _ h => h) (Or.inr ⟨by kernel_rfl, rfl⟩) hHeld ?_
          refine wpAnyH_take (i := 23) (v := .bool false) rfl (by kernel_rfl) (by kernel_rfl) (by kernel_rfl) (fun _ _ _ h => h) (Or.inl ⟨by kernel_rfl, fun w _ => by kernel_rfl⟩) hHeld ?_
          refine wpAnyH_done (by kernel_rfl) ?_ _
          exact ⟨.bool false, .bool false, undef, undef, undef, undef, undef, undef, undef, undef, undef, undef, undef, undef, undef, undef, undef, undef, undef, undef, undef, undef, undef, by kernel_rfl, hid (Kp.drew _ _)⟩
        · rintro e a' W4 hpost
          cases e with
          | normal =>
            obtain ⟨t30, t31, t32, t33, t34, t35, t36, t37, t38, t39, t40, t41, t42, t43, t44, t45, t46, t47, t48, t49, t50, t51, t52, rfl, k4⟩ := hpost
            have K4 := hid (hK.out.trans k4.out)
            clear k4
            go_wp2
            go_roundw
            case rel => exact ⟨t + 1, want, prio, by omega, by simp, rfl, rfl, S2, K4⟩
            case measure => simp [intOf]; omega
          | _ => exact hpost.elim
      | true =>
        rw [hB] at cp
        have hx0 : 0 < x := by rw [← HX.out, HP.out]; exact mem_map_has.1 hB
        have hm : ((t : Int), P) ∈ L := by
          obtain ⟨y, hy, e⟩ := mem_has.1 hB
          have := get_of_mem HOK.out.one hy
          rw [e, HPP.out] at this
          rw [this, ← e]
          exact hy
        have S2 := hid (scn_here HOK.out hS.out hm)
        have HPR := hid (show 1 ≤ P from (HOK.out.rng _ hm).2.1)
        clear hB hm
        go_wp2_with fail
        refine cp.mono ?_
        rintro e w1 ⟨rfl, rfl⟩
        go_wp2_with fail
        by_cases hgt : prio < P
        · have S3 := hid (S2.out.1 (.inl hgt))
          refine wp_mono (Q := fun e a' W => match e with | .normal => ∃ (t30 t31 t32 t33 t34 t35 t36 t37 t38 t39 t40 t41 t42 t43 t44 t45 t46 t47 t48 t49 t50 t51 t52 : Value), a' = { tmps := #[.pointer (some ⟨wb, 0, none⟩), .pointer (some ⟨cb, 0, none⟩), undef, undef, u4, .int .i64 want, .int .i64 prio, .int .i64 (t : Nat), .int .i64 P, .bool true, undef, undef, .int .i64 (t : Nat), .bool true, u14, u15, .tuple #[.int .i64 P, .bool true], .pointer (some ⟨wb, 0, none⟩), .int .i64 (t : Nat), .tuple #[.int .i64 P, .bool true], .int .i64 P, .bool true, .bool true, .pointer (some ⟨cb, 0, none⟩), .int .i64 (t : Nat), .pointer (some ⟨cb, 0, none⟩), .pointer (some ⟨cb, t, none⟩), .int .i64 x, .bool true, .bool false, t30, t31, t32, t33, t34, t35, t36, t37, t38, t39, t40, t41, t42, t43, t44, t45, t46, t47, t48, t49, t50, t51, t52, .bool true, u54, u55, undef, undef, undef, undef, undef, undef, undef, undef, undef, undef, undef, undef, undef, undef, undef, undef, undef, undef, undef, undef, undef, undef], defers := [] } ∧ Hid (Kp w1 W []) | _ => False) ?_ ?_
          · skip
            refine wp_region_held_drew (S := fun W : World => W.cell? ⟨cb, t, none⟩ = some (.int .i64 x) ∧ True) (by kernel_rfl) ⟨by simpa using hct, trivial⟩ (fun hHeld => ?_)
            refine wpAnyH_take (i := 0) (v := .bool true) rfl (by kernel_rfl) (by kernel_rfl) (by kernel_rfl) (fun _ _ _ h => h) (Or.inl ⟨by kernel_rfl, fun w _ => by kernel_rfl⟩) hHeld ?_
            refine wpAnyH_take (i := 1) (v := .bool true) rfl (by kernel_rfl) (by kernel_rfl) (by kernel_rfl) (fun _ _ _ h => h) (Or.inl ⟨by kernel_rfl, fun w _ => by kernel_rfl⟩) hHeld ?_
            refine wpAnyH_take (i := 2) (v := .int .i64 P) rfl (by kernel_rfl) (by kernel_rfl) (by kernel_rfl) (fun _ _ _ h => h) (Or.inl ⟨by kernel_rfl, fun w _ => by kernel_rfl⟩) hHeld ?_
            refine wpAnyH_take (i := 3) (v := .int .i64 prio) rfl (by kernel_rfl) (by kernel_rfl) (by kernel_rfl) (fun _ _ _ h => h) (Or.inl ⟨by kernel_rfl, fun w _ => by kernel_rfl⟩) hHeld ?_
            refine wpAnyH_take (i := 4) (v := .bool true) rfl (by kernel_rfl) (by kernel_rfl) (by kernel_rfl) (fun _ _ _ h => h) (Or.inl ⟨by kernel_rfl, by intro w hSw; obtain ⟨s1, s2⟩ := hSw; go_simp⟩) hHeld ?_
            refine wpAnyH_take (i := 5) (v := .bool true) rfl (by kernel_rfl) (by kernel_rfl) (by kernel_rfl) (fun _ _ _ h => h) (Or.inl ⟨by kernel_rfl, fun w _ => by kernel_rfl⟩) hHeld ?_
            refine wpAnyH_take (i := 6) (v := undef) rfl (by kernel_rfl) (by kernel_rfl) (by kernel_rfl) (fun _ _ _ h => h) (Or.inr ⟨by kernel_rfl, rfl⟩) hHeld ?_
            refine wpAnyH_take (i := 7) (v := undef) rfl (by kernel_rfl) (by kernel_rfl) (by kernel_rfl) (fun _ _ _ h => h) (Or.inr ⟨by kernel_rfl, rfl⟩) hHeld ?_
            refine wpAnyH_take (i := 8) (v := undef) rfl (by kernel_rfl) (by kernel_rfl) (by kernel_rfl) (fun _ _ _ h => h) (Or.inr ⟨by kernel_rfl, rfl⟩) hHeld ?_
            refine wpAnyH_take (i := 9) (v := undef) rfl (by kernel_rfl) (by kernel_rfl) (by kernel_rfl) (fun _ _ _ h => h) (Or.inr ⟨by kernel_rfl, rfl⟩) hHeld ?_
            refine wpAnyH_take (i := 10) (v := undef) rfl (by kernel_rfl) (by kernel_rfl) (by kernel_rfl) (fun _ _ _ h => h) (Or.inr ⟨by kernel_rfl, rfl⟩) hHeld ?_
            refine wpAnyH_take (i := 11) (v := undef) rfl (by kernel_rfl) (by kernel_rfl) (by kernel_rfl) (fun _ _ _ h => h) (Or.inr ⟨by kernel_rfl, rfl⟩) hHeld ?_
            refine wpAnyH_take (i := 12) (v := undef) rfl (by kernel_rfl) (by kernel_rfl) (by kernel_rfl) (fun _ _ _ h => h) (Or.inr ⟨by kernel_rfl, rfl⟩) hHeld ?_
            refine wpAnyH_take (i := 13) (v := undef) rfl (by kernel_rfl) (by kernel_rfl) (by kernel_rfl) (fun _ _ _ h => h) (Or.inr ⟨by kernel_rfl, rfl⟩) hHeld ?_
            refine wpAnyH_take (i := 14) (v := undef) rfl (by kernel_rfl) (by kernel_rfl) (by kernel_rfl) (fun _ _ _ h => h) (Or.inr ⟨by kernel_rfl, rfl⟩) hHeld ?_
            refine wpAnyH_take (i := 15) (v := undef) rfl (by kernel_rfl) (by kernel_rfl) (by kernel_rfl) (fun _ _ _ h => h) (Or.inr ⟨by kernel_rfl, rfl⟩) hHeld ?_
            refine wpAnyH_take (i := 16) (v := undef) rfl (by kernel_rfl) (by kernel_rfl) (by kernel_rfl) (fun _ _ _ h => h) (Or.inr ⟨by kernel_rfl, rfl⟩) hHeld ?_
            refine wpAnyH_take (i := 17) (v := undef) rfl (by kernel_rfl) (by kernel_rfl) (by kernel_rfl) (fun _ _ _ h => h) (Or.inr ⟨by kernel_rfl, rfl⟩) hHeld ?_
            refine wpAnyH_take (i := 18) (v := undef) rfl (by kernel_rfl) (by kernel_rfl) (by kernel_rfl) (fun _ _ _ h => h) (Or.inr ⟨by kernel_rfl, rfl⟩) hHeld ?_
            refine wpAnyH_take (i := 19) (v := undef) rfl (by kernel_rfl) (by kernel_rfl) (by kernel_rfl) (fun _ _ _ h => h) (Or.inr ⟨by kernel_rfl, rfl⟩) hHeld ?_
            refine wpAnyH_take (i := 20) (v := undef) rfl (by kernel_rfl) (by kernel_rfl) (by kernel_rfl) (fun _ _ _ h => h) (Or.inr ⟨by kernel_rfl, rfl⟩) hHeld ?_
            refine wpAnyH_take (i := 21) (v := undef) rfl (by kernel_rfl) (by kernel_rfl) (by kernel_rfl) (fun _ _ _ h => h) (Or.inr ⟨by kernel_rfl, rfl⟩) hHeld ?_
            refine wpAnyH_take (i := 22) (v := .bool true) rfl (by kernel_rfl) (by kernel_rfl) (by kernel_rfl) (fun _ _ _ h => h) (Or.inl ⟨by kernel_rfl, fun w _ => by kernel_rfl⟩) hHeld ?_
            refine wpAnyH_take (i := 23) (v := .bool true) rfl (by kernel_rfl) (by kernel_rfl) (by kernel_rfl) (fun _ _ _ h => h) (Or.inl ⟨by kernel_rfl, fun w _ => by kernel_rfl⟩) hHeld ?_
            refine wpAnyH_done (by kernel_rfl) ?_ _
            exact ⟨.bool true, .bool true, .int .i64 P, .int .i64 prio, .bool true, .bool true, undef, undef, undef, undef, undef, undef, undef, undef, undef, undef, undef, undef, undef, undef, undef, undef, .bool true, by kernel_rfl, hid (Kp.drew _ _)⟩
          · rintro e a' W4 hpost
            cases e with
            | normal =>
              obtain ⟨t30, t31, t32, t33, t34, t35, t36, t37, t38, t39, t40, t41, t42, t43, t44, t45, t46, t47, t48, t49, t50, t51, t52, rfl, k4⟩ := hpost
              have K4 := hid (hK.out.trans k4.out)
              clear k4
              go_wp2
              go_roundw
              case rel => exact ⟨t + 1, (t : Nat), P, by omega, by simp, rfl, rfl, S3, K4⟩
              case measure => simp [intOf]; omega
            | _ => exact hpost.elim
        · by_cases heq : P = prio
          · have heqI : (P == prio) = true := by simp [heq]
            have HQ := hid heq
            have HWT := hid (show ∃ m : Nat, want = m ∧ m < 16 from by
              rcases hS.out with ⟨-, e2, -⟩ | ⟨e1, -, -⟩
              · have := HPR.out; omega
              · have := (HOK.out.rng _ e1).1
                simp only at this
                exact ⟨want.toNat, by omega, by omega⟩)
            obtain ⟨m, rfl, hm16⟩ := HWT.out
            have hmI : (m : Int) < 16 := by omega
            obtain ⟨y, hy⟩ : ∃ y, c m = y := ⟨_, rfl⟩
            have hcy : w1.cell? ⟨cb, m, none⟩ = some (.int .i64 y) := by rw [← hy]; exact (HT.out.cm.cell hm16).1
            have HY := hid hy
            clear heq hy HWT
            by_cases hxy : x < y
            · have S3 := hid (S2.out.1 (.inr ⟨HQ.out, by rw [HX.out, show ((m : Int)).toNat = m by omega, HY.out]; exact hxy⟩))
              refine wp_mono (Q := fun e a' W => match e with | .normal => ∃ (t30 t31 t32 t33 t34 t35 t36 t37 t38 t39 t40 t41 t42 t43 t44 t45 t46 t47 t48 t49 t50 t51 t52 : Value), a' = { tmps := #[.pointer (some ⟨wb, 0, none⟩), .pointer (some ⟨cb, 0, none⟩), undef, undef, u4, .int .i64 (m : Nat), .int .i64 prio, .int .i64 (t : Nat), .int .i64 P, .bool true, undef, undef, .int .i64 (t : Nat), .bool true, u14, u15, .tuple #[.int .i64 P, .bool true], .pointer (some ⟨wb, 0, none⟩), .int .i64 (t : Nat), .tuple #[.int .i64 P, .bool true], .int .i64 P, .bool true, .bool true, .pointer (some ⟨cb, 0, none⟩), .int .i64 (t : Nat), .pointer (some ⟨cb, 0, none⟩), .pointer (some ⟨cb, t, none⟩), .int .i64 x, .bool true, .bool false, t30, t31, t32, t33, t34, t35, t36, t37, t38, t39, t40, t41, t42, t43, t44, t45, t46, t47, t48, t49, t50, t51, t52, .bool true, u54, u55, undef, undef, undef, undef, undef, undef, undef, undef, undef, undef, undef, undef, undef, undef, undef, undef, undef, undef, undef, undef, undef, undef], defers := [] } ∧ Hid (Kp w1 W []) | _ => False) ?_ ?_
              · skip
                refine wp_region_held_drew (S := fun W : World => W.cell? ⟨cb, t, none⟩ = some (.int .i64 x) ∧ W.cell? ⟨cb, m, none⟩ = some (.int .i64 y)) (by kernel_rfl) ⟨by simpa using hct, by simpa using hcy⟩ (fun hHeld => ?_)
                refine wpAnyH_take (i := 0) (v := .bool true) rfl (by kernel_rfl) (by kernel_rfl) (by kernel_rfl) (fun _ _ _ h => h) (Or.inl ⟨by kernel_rfl, fun w _ => by kernel_rfl⟩) hHeld ?_
                refine wpAnyH_take (i := 1) (v := .bool true) rfl (by kernel_rfl) (by kernel_rfl) (by kernel_rfl) (fun _ _ _ h => h) (Or.inl ⟨by kernel_rfl, fun w _ => by kernel_rfl⟩) hHeld ?_
                refine wpAnyH_take (i := 2) (v := .int .i64 P) rfl (by kernel_rfl) (by kernel_rfl) (by kernel_rfl) (fun _ _ _ h => h) (Or.inl ⟨by kernel_rfl, fun w _ => by kernel_rfl⟩) hHeld ?_
                refine wpAnyH_take (i := 3) (v := .int .i64 prio) rfl (by kernel_rfl) (by kernel_rfl) (by kernel_rfl) (fun _ _ _ h => h) (Or.inl ⟨by kernel_rfl, fun w _ => by kernel_rfl⟩) hHeld ?_
                refine wpAnyH_take (i := 4) (v := .bool false) rfl (by kernel_rfl) (by kernel_rfl) (by kernel_rfl) (fun _ _ _ h => h) (Or.inl ⟨by kernel_rfl, by intro w hSw; obtain ⟨s1, s2⟩ := hSw; go_simp⟩) hHeld ?_
                refine wpAnyH_take (i := 5) (v := .bool false) rfl (by kernel_rfl) (by kernel_rfl) (by kernel_rfl) (fun _ _ _ h => h) (Or.inl ⟨by kernel_rfl, fun w _ => by kernel_rfl⟩) hHeld ?_
                refine wpAnyH_take (i := 6) (v := .int .i64 P) rfl (by kernel_rfl) (by kernel_rfl) (by kernel_rfl) (fun _ _ _ h => h) (Or.inl ⟨by kernel_rfl, fun w _ => by kernel_rfl⟩) hHeld ?_
                refine wpAnyH_take (i := 7) (v := .int .i64 prio) rfl (by kernel_rfl) (by kernel_rfl) (by kernel_rfl) (fun _ _ _ h => h) (Or.inl ⟨by kernel_rfl, fun w _ => by kernel_rfl⟩) hHeld ?_
                refine wpAnyH_take (i := 8) (v := .bool true) rfl (by kernel_rfl) (by kernel_rfl) (by kernel_rfl) (fun _ _ _ h => h) (Or.inl ⟨by kernel_rfl, by intro w hSw; obtain ⟨s1, s2⟩ := hSw; go_simp⟩) hHeld ?_
                refine wpAnyH_take (i := 9) (v := .bool true) rfl (by kernel_rfl) (by kernel_rfl) (by kernel_rfl) (fun _ _ _ h => h) (Or.inl ⟨by kernel_rfl, fun w _ => by kernel_rfl⟩) hHeld ?_
                refine wpAnyH_take (i := 10) (v := .pointer (some ⟨cb, 0, none⟩)) rfl (by kernel_rfl) (by kernel_rfl) (by kernel_rfl) (fun _ _ _ h => h) (Or.inl ⟨by kernel_rfl, fun w _ => by kernel_rfl⟩) hHeld ?_
                refine wpAnyH_take (i := 11) (v := .int .i64 (t : Nat)) rfl (by kernel_rfl) (by kernel_rfl) (by kernel_rfl) (fun _ _ _ h => h) (Or.inl ⟨by kernel_rfl, fun w _ => by kernel_rfl⟩) hHeld ?_
                refine wpAnyH_take (i := 12) (v := .pointer (some ⟨cb, 0, none⟩)) rfl (by kernel_rfl) (by kernel_rfl) (by kernel_rfl) (fun _ _ _ h => h) (Or.inl ⟨by kernel_rfl, fun w _ => by kernel_rfl⟩) hHeld ?_
                refine wpAnyH_take (i := 13) (v := .pointer (some ⟨cb, t, none⟩)) rfl (by kernel_rfl) (by kernel_rfl) (by kernel_rfl) (fun _ _ _ h => h) (Or.inl ⟨by kernel_rfl, by intro w hSw; obtain ⟨s1, s2⟩ := hSw; go_simp⟩) hHeld ?_
                refine wpAnyH_take (i := 14) (v := .int .i64 x) rfl (by kernel_rfl) (by kernel_rfl) (by kernel_rfl) (fun _ _ _ h => h) (Or.inl ⟨by kernel_rfl, by intro w hSw; obtain ⟨s1, s2⟩ := hSw; go_simp⟩) hHeld ?_
                refine wpAnyH_take (i := 15) (v := .pointer (some ⟨cb, 0, none⟩)) rfl (by kernel_rfl) (by kernel_rfl) (by kernel_rfl) (fun _ _ _ h => h) (Or.inl ⟨by kernel_rfl, fun w _ => by kernel_rfl⟩) hHeld ?_
                refine wpAnyH_take (i := 16) (v := .int .i64 (m : Nat)) rfl (by kernel_rfl) (by kernel_rfl) (by kernel_rfl) (fun _ _ _ h => h) (Or.inl ⟨by kernel_rfl, fun w _ => by kernel_rfl⟩) hHeld ?_
                refine wpAnyH_take (i := 17) (v := .pointer (some ⟨cb, 0, none⟩)) rfl (by kernel_rfl) (by kernel_rfl) (by kernel_rfl) (fun _ _ _ h => h) (Or.inl ⟨by kernel_rfl, fun w _ => by kernel_rfl⟩) hHeld ?_
                refine wpAnyH_take (i := 18) (v := .pointer (some ⟨cb, m, none⟩)) rfl (by kernel_rfl) (by kernel_rfl) (by kernel_rfl) (fun _ _ _ h => h) (Or.inl ⟨by kernel_rfl, by intro w hSw; obtain ⟨s1, s2⟩ := hSw; go_simp⟩) hHeld ?_
                refine wpAnyH_take (i := 19) (v := .int .i64 y) rfl (by kernel_rfl) (by kernel_rfl) (by kernel_rfl) (fun _ _ _ h => h) (Or.inl ⟨by kernel_rfl, by intro w hSw; obtain ⟨s1, s2⟩ := hSw; go_simp⟩) hHeld ?_
                refine wpAnyH_take (i := 20) (v := .bool true) rfl (by kernel_rfl) (by kernel_rfl) (by kernel_rfl) (fun _ _ _ h => h) (Or.inl ⟨by kernel_rfl, by intro w hSw; obtain ⟨s1, s2⟩ := hSw; go_simp⟩) hHeld ?_
                refine wpAnyH_take (i := 21) (v := .bool true) rfl (by kernel_rfl) (by kernel_rfl) (by kernel_rfl) (fun _ _ _ h => h) (Or.inl ⟨by kernel_rfl, fun w _ => by kernel_rfl⟩) hHeld ?_
                refine wpAnyH_take (i := 22) (v := .bool true) rfl (by kernel_rfl) (by kernel_rfl) (by kernel_rfl) (fun _ _ _ h => h) (Or.inl ⟨by kernel_rfl, fun w _ => by kernel_rfl⟩) hHeld ?_
                refine wpAnyH_take (i := 23) (v := .bool true) rfl (by kernel_rfl) (by kernel_rfl) (by kernel_rfl) (fun _ _ _ h => h) (Or.inl ⟨by kernel_rfl, fun w _ => by kernel_rfl⟩) hHeld ?_
                refine wpAnyH_done (by kernel_rfl) ?_ _
                exact ⟨.bool true, .bool true, .int .i64 P, .int .i64 prio, .bool false, .bool false, .int .i64 P, .int .i64 prio, .bool true, .bool true, .pointer (some ⟨cb, 0, none⟩), .int .i64 (t : Nat), .pointer (some ⟨cb, 0, none⟩), .pointer (some ⟨cb, t, none⟩), .int .i64 x, .pointer (some ⟨cb, 0, none⟩), .int .i64 (m : Nat), .pointer (some ⟨cb, 0, none⟩), .pointer (some ⟨cb, m, none⟩), .int .i64 y, .bool true, .bool true, .bool true, by kernel_rfl, hid (Kp.drew _ _)⟩
              · rintro e a' W4 hpost
                cases e with
                | normal =>
                  obtain ⟨t30, t31, t32, t33, t34, t35, t36, t37, t38, t39, t40, t41, t42, t43, t44, t45, t46, t47, t48, t49, t50, t51, t52, rfl, k4⟩ := hpost
                  have K4 := hid (hK.out.trans k4.out)
                  clear k4
                  go_wp2
                  go_roundw
                  case rel => exact ⟨t + 1, (t : Nat), P, by omega, by simp, rfl, rfl, S3, K4⟩
                  case measure => simp [intOf]; omega
                | _ => exact hpost.elim
            · have S3 := hid ((S2.out.2 (by rw [HX.out, show ((m : Int)).toNat = m by omega, HY.out]; omega)).1)
              refine wp_mono (Q := fun e a' W => match e with | .normal => ∃ (t30 t31 t32 t33 t34 t35 t36 t37 t38 t39 t40 t41 t42 t43 t44 t45 t46 t47 t48 t49 t50 t51 t52 : Value), a' = { tmps := #[.pointer (some ⟨wb, 0, none⟩), .pointer (some ⟨cb, 0, none⟩), undef, undef, u4, .int .i64 (m : Nat), .int .i64 prio, .int .i64 (t : Nat), .int .i64 P, .bool true, undef, undef, .int .i64 (t : Nat), .bool true, u14, u15, .tuple #[.int .i64 P, .bool true], .pointer (some ⟨wb, 0, none⟩), .int .i64 (t : Nat), .tuple #[.int .i64 P, .bool true], .int .i64 P, .bool true, .bool true, .pointer (some ⟨cb, 0, none⟩), .int .i64 (t : Nat), .pointer (some ⟨cb, 0, none⟩), .pointer (some ⟨cb, t, none⟩), .int .i64 x, .bool true, .bool false, t30, t31, t32, t33, t34, t35, t36, t37, t38, t39, t40, t41, t42, t43, t44, t45, t46, t47, t48, t49, t50, t51, t52, .bool false, u54, u55, undef, undef, undef, undef, undef, undef, undef, undef, undef, undef, undef, undef, undef, undef, undef, undef, undef, undef, undef, undef, undef, undef], defers := [] } ∧ Hid (Kp w1 W []) | _ => False) ?_ ?_
              · skip
                refine wp_region_held_drew (S := fun W : World => W.cell? ⟨cb, t, none⟩ = some (.int .i64 x) ∧ W.cell? ⟨cb, m, none⟩ = some (.int .i64 y)) (by kernel_rfl) ⟨by simpa using hct, by simpa using hcy⟩ (fun hHeld => ?_)
                refine wpAnyH_take (i := 0) (v := .bool true) rfl (by kernel_rfl) (by kernel_rfl) (by kernel_rfl) (fun _ _ _ h => h) (Or.inl ⟨by kernel_rfl, fun w _ => by kernel_rfl⟩) hHeld ?_
                refine wpAnyH_take (i := 1) (v := .bool true) rfl (by kernel_rfl) (by kernel_rfl) (by kernel_rfl) (fun _ _ _ h => h) (Or.inl ⟨by kernel_rfl, fun w _ => by kernel_rfl⟩) hHeld ?_
                refine wpAnyH_take (i := 2) (v := .int .i64 P) rfl (by kernel_rfl) (by kernel_rfl) (by kernel_rfl) (fun _ _ _ h => h) (Or.inl ⟨by kernel_rfl, fun w _ => by kernel_rfl⟩) hHeld ?_
                refine wpAnyH_take (i := 3) (v := .int .i64 prio) rfl (by kernel_rfl) (by kernel_rfl) (by kernel_rfl) (fun _ _ _ h => h) (Or.inl ⟨by kernel_rfl, fun w _ => by kernel_rfl⟩) hHeld ?_
                refine wpAnyH_take (i := 4) (v := .bool false) rfl (by kernel_rfl) (by kernel_rfl) (by kernel_rfl) (fun _ _ _ h => h) (Or.inl ⟨by kernel_rfl, by intro w hSw; obtain ⟨s1, s2⟩ := hSw; go_simp⟩) hHeld ?_
                refine wpAnyH_take (i := 5) (v := .bool false) rfl (by kernel_rfl) (by kernel_rfl) (by kernel_rfl) (fun _ _ _ h => h) (Or.inl ⟨by kernel_rfl, fun w _ => by kernel_rfl⟩) hHeld ?_
                refine wpAnyH_take (i := 6) (v := .int .i64 P) rfl (by kernel_rfl) (by kernel_rfl) (by kernel_rfl) (fun _ _ _ h => h) (Or.inl ⟨by kernel_rfl, fun w _ => by kernel_rfl⟩) hHeld ?_
                refine wpAnyH_take (i := 7) (v := .int .i64 prio) rfl (by kernel_rfl) (by kernel_rfl) (by kernel_rfl) (fun _ _ _ h => h) (Or.inl ⟨by kernel_rfl, fun w _ => by kernel_rfl⟩) hHeld ?_
                refine wpAnyH_take (i := 8) (v := .bool true) rfl (by kernel_rfl) (by kernel_rfl) (by kernel_rfl) (fun _ _ _ h => h) (Or.inl ⟨by kernel_rfl, by intro w hSw; obtain ⟨s1, s2⟩ := hSw; go_simp⟩) hHeld ?_
                refine wpAnyH_take (i := 9) (v := .bool true) rfl (by kernel_rfl) (by kernel_rfl) (by kernel_rfl) (fun _ _ _ h => h) (Or.inl ⟨by kernel_rfl, fun w _ => by kernel_rfl⟩) hHeld ?_
                refine wpAnyH_take (i := 10) (v := .pointer (some ⟨cb, 0, none⟩)) rfl (by kernel_rfl) (by kernel_rfl) (by kernel_rfl) (fun _ _ _ h => h) (Or.inl ⟨by kernel_rfl, fun w _ => by kernel_rfl⟩) hHeld ?_
                refine wpAnyH_take (i := 11) (v := .int .i64 (t : Nat)) rfl (by kernel_rfl) (by kernel_rfl) (by kernel_rfl) (fun _ _ _ h => h) (Or.inl ⟨by kernel_rfl, fun w _ => by kernel_rfl⟩) hHeld ?_
                refine wpAnyH_take (i := 12) (v := .pointer (some ⟨cb, 0, none⟩)) rfl (by kernel_rfl) (by kernel_rfl) (by kernel_rfl) (fun _ _ _ h => h) (Or.inl ⟨by kernel_rfl, fun w _ => by kernel_rfl⟩) hHeld ?_
                refine wpAnyH_take (i := 13) (v := .pointer (some ⟨cb, t, none⟩)) rfl (by kernel_rfl) (by kernel_rfl) (by kernel_rfl) (fun _ _ _ h => h) (Or.inl ⟨by kernel_rfl, by intro w hSw; obtain ⟨s1, s2⟩ := hSw; go_simp⟩) hHeld ?_
                refine wpAnyH_take (i := 14) (v := .int .i64 x) rfl (by kernel_rfl) (by kernel_rfl) (by kernel_rfl) (fun _ _ _ h => h) (Or.inl ⟨by kernel_rfl, by intro w hSw; obtain ⟨s1, s2⟩ := hSw; go_simp⟩) hHeld ?_
                refine wpAnyH_take (i := 15) (v := .pointer (some ⟨cb, 0, none⟩)) rfl (by kernel_rfl) (by kernel_rfl) (by kernel_rfl) (fun _ _ _ h => h) (Or.inl ⟨by kernel_rfl, fun w _ => by kernel_rfl⟩) hHeld ?_
                refine wpAnyH_take (i := 16) (v := .int .i64 (m : Nat)) rfl (by kernel_rfl) (by kernel_rfl) (by kernel_rfl) (fun _ _ _ h => h) (Or.inl ⟨by kernel_rfl, fun w _ => by kernel_rfl⟩) hHeld ?_
                refine wpAnyH_take (i := 17) (v := .pointer (some ⟨cb, 0, none⟩)) rfl (by kernel_rfl) (by kernel_rfl) (by kernel_rfl) (fun _ _ _ h => h) (Or.inl ⟨by kernel_rfl, fun w _ => by kernel_rfl⟩) hHeld ?_
                refine wpAnyH_take (i := 18) (v := .pointer (some ⟨cb, m, none⟩)) rfl (by kernel_rfl) (by kernel_rfl) (by kernel_rfl) (fun _ _ _ h => h) (Or.inl ⟨by kernel_rfl, by intro w hSw; obtain ⟨s1, s2⟩ := hSw; go_simp⟩) hHeld ?_
                refine wpAnyH_take (i := 19) (v := .int .i64 y) rfl (by kernel_rfl) (by kernel_rfl) (by kernel_rfl) (fun _ _ _ h => h) (Or.inl ⟨by kernel_rfl, by intro w hSw; obtain ⟨s1, s2⟩ := hSw; go_simp⟩) hHeld ?_
                refine wpAnyH_take (i := 20) (v := .bool false) rfl (by kernel_rfl) (by kernel_rfl) (by kernel_rfl) (fun _ _ _ h => h) (Or.inl ⟨by kernel_rfl, by intro w hSw; obtain ⟨s1, s2⟩ := hSw; go_simp⟩) hHeld ?_
                refine wpAnyH_take (i := 21) (v := .bool false) rfl (by kernel_rfl) (by kernel_rfl) (by kernel_rfl) (fun _ _ _ h => h) (Or.inl ⟨by kernel_rfl, fun w _ => by kernel_rfl⟩) hHeld ?_
                refine wpAnyH_take (i := 22) (v := .bool false) rfl (by kernel_rfl) (by kernel_rfl) (by kernel_rfl) (fun _ _ _ h => h) (Or.inl ⟨by kernel_rfl, fun w _ => by kernel_rfl⟩) hHeld ?_
                refine wpAnyH_take (i := 23) (v := .bool false) rfl (by kernel_rfl) (by kernel_rfl) (by kernel_rfl) (fun _ _ _ h => h) (Or.inl ⟨by kernel_rfl, fun w _ => by kernel_rfl⟩) hHeld ?_
                refine wpAnyH_done (by kernel_rfl) ?_ _
                exact ⟨.bool true, .bool true, .int .i64 P, .int .i64 prio, .bool false, .bool false, .int .i64 P, .int .i64 prio, .bool true, .bool true, .pointer (some ⟨cb, 0, none⟩), .int .i64 (t : Nat), .pointer (some ⟨cb, 0, none⟩), .pointer (some ⟨cb, t, none⟩), .int .i64 x, .pointer (some ⟨cb, 0, none⟩), .int .i64 (m : Nat), .pointer (some ⟨cb, 0, none⟩), .pointer (some ⟨cb, m, none⟩), .int .i64 y, .bool false, .bool false, .bool false, by kernel_rfl, hid (Kp.drew _ _)⟩
              · rintro e a' W4 hpost
                cases e with
                | normal =>
                  obtain ⟨t30, t31, t32, t33, t34, t35, t36, t37, t38, t39, t40, t41, t42, t43, t44, t45, t46, t47, t48, t49, t50, t51, t52, rfl, k4⟩ := hpost
                  have K4 := hid (hK.out.trans k4.out)
                  clear k4
                  go_wp2
                  go_roundw
                  case rel => exact ⟨t + 1, (m : Nat), prio, by omega, by simp, rfl, rfl, S3, K4⟩
                  case measure => simp [intOf]; omega
                | _ => exact hpost.elim
          · have heqI : (P == prio) = false := by simp [heq]
            have S3 := hid ((S2.out.2 (by omega)).1)
            clear heq
            refine wp_mono (Q := fun e a' W => match e with | .normal => ∃ (t30 t31 t32 t33 t34 t35 t36 t37 t38 t39 t40 t41 t42 t43 t44 t45 t46 t47 t48 t49 t50 t51 t52 : Value), a' = { tmps := #[.pointer (some ⟨wb, 0, none⟩), .pointer (some ⟨cb, 0, none⟩), undef, undef, u4, .int .i64 want, .int .i64 prio, .int .i64 (t : Nat), .int .i64 P, .bool true, undef, undef, .int .i64 (t : Nat), .bool true, u14, u15, .tuple #[.int .i64 P, .bool true], .pointer (some ⟨wb, 0, none⟩), .int .i64 (t : Nat), .tuple #[.int .i64 P, .bool true], .int .i64 P, .bool true, .bool true, .pointer (some ⟨cb, 0, none⟩), .int .i64 (t : Nat), .pointer (some ⟨cb, 0, none⟩), .pointer (some ⟨cb, t, none⟩), .int .i64 x, .bool true, .bool false, t30, t31, t32, t33, t34, t35, t36, t37, t38, t39, t40, t41, t42, t43, t44, t45, t46, t47, t48, t49, t50, t51, t52, .bool false, u54, u55, undef, undef, undef, undef, undef, undef, undef, undef, undef, undef, undef, undef, undef, undef, undef, undef, undef, undef, undef, undef, undef, undef], defers := [] } ∧ Hid (Kp w1 W []) | _ => False) ?_ ?_
            · skip
              refine wp_region_held_drew (S := fun W : World => W.cell? ⟨cb, t, none⟩ = some (.int .i64 x) ∧ True) (by kernel_rfl) ⟨by simpa using hct, trivial⟩ (fun hHeld => ?_)
              refine wpAnyH_take (i := 0) (v := .bool true) rfl (by kernel_rfl) (by kernel_rfl) (by kernel_rfl) (fun _ _ _ h => h) (Or.inl ⟨by kernel_rfl, fun w _ => by kernel_rfl⟩) hHeld ?_
              refine wpAnyH_take (i := 1) (v := .bool true) rfl (by kernel_rfl) (by kernel_rfl) (by kernel_rfl) (fun _ _ _ h => h) (Or.inl ⟨by kernel_rfl, fun w _ => by kernel_rfl⟩) hHeld ?_
              refine wpAnyH_take (i := 2) (v := .int .i64 P) rfl (by kernel_rfl) (by kernel_rfl) (by kernel_rfl) (fun _ _ _ h => h) (Or.inl ⟨by kernel_rfl, fun w _ => by kernel_rfl⟩) hHeld ?_
              refine wpAnyH_take (i := 3) (v := .int .i64 prio) rfl (by kernel_rfl) (by kernel_rfl) (by kernel_rfl) (fun _ _ _ h => h) (Or.inl ⟨by kernel_rfl, fun w _ => by kernel_rfl⟩) hHeld ?_
              refine wpAnyH_take (i := 4) (v := .bool false) rfl (by kernel_rfl) (by kernel_rfl) (by kernel_rfl) (fun _ _ _ h => h) (Or.inl ⟨by kernel_rfl, by intro w hSw; obtain ⟨s1, s2⟩ := hSw; go_simp⟩) hHeld ?_
              refine wpAnyH_take (i := 5) (v := .bool false) rfl (by kernel_rfl) (by kernel_rfl) (by kernel_rfl) (fun _ _ _ h => h) (Or.inl ⟨by kernel_rfl, fun w _ => by kernel_rfl⟩) hHeld ?_
              refine wpAnyH_take (i := 6) (v := .int .i64 P) rfl (by kernel_rfl) (by kernel_rfl) (by kernel_rfl) (fun _ _ _ h => h) (Or.inl ⟨by kernel_rfl, fun w _ => by kernel_rfl⟩) hHeld ?_
              refine wpAnyH_take (i := 7) (v := .int .i64 prio) rfl (by kernel_rfl) (by kernel_rfl) (by kernel_rfl) (fun _ _ _ h => h) (Or.inl ⟨by kernel_rfl, fun w _ => by kernel_rfl⟩) hHeld ?_
              refine wpAnyH_take (i := 8) (v := .bool false) rfl (by kernel_rfl) (by kernel_rfl) (by kernel_rfl) (fun _ _ _ h => h) (Or.inl ⟨by kernel_rfl, by intro w hSw; obtain ⟨s1, s2⟩ := hSw; go_simp⟩) hHeld ?_
              refine wpAnyH_take (i := 9) (v := .bool false) rfl (by kernel_rfl) (by kernel_rfl) (by kernel_rfl) (fun _ _ _ h => h) (Or.inl ⟨by kernel_rfl, fun w _ => by kernel_rfl⟩) hHeld ?_
              refine wpAnyH_take (i := 10) (v := undef) rfl (by kernel_rfl) (by kernel_rfl) (by kernel_rfl) (fun _ _ _ h => h) (Or.inr ⟨by kernel_rfl, rfl⟩) hHeld ?_
              refine wpAnyH_take (i := 11) (v := undef) rfl (by kernel_rfl) (by kernel_rfl) (by kernel_rfl) (fun _ _ _ h => h) (Or.inr ⟨by kernel_rfl, rfl⟩) hHeld ?_
              refine wpAnyH_take (i := 12) (v := undef) rfl (by kernel_rfl) (by kernel_rfl) (by kernel_rfl) (fun _ _ _ h => h) (Or.inr ⟨by kernel_rfl, rfl⟩) hHeld ?_
              refine wpAnyH_take (i := 13) (v := undef) rfl (by kernel_rfl) (by kernel_rfl) (by kernel_rfl) (fun _ _ _ h => h) (Or.inr ⟨by kernel_rfl, rfl⟩) hHeld ?_
              refine wpAnyH_take (i := 14) (v := undef) rfl (by kernel_rfl) (by kernel_rfl) (by kernel_rfl) (fun _ _ _ h => h) (Or.inr ⟨by kernel_rfl, rfl⟩) hHeld ?_
              refine wpAnyH_take (i := 15) (v := undef) rfl (by kernel_rfl) (by kernel_rfl) (by kernel_rfl) (fun _ _ _ h => h) (Or.inr ⟨by kernel_rfl, rfl⟩) hHeld ?_
              refine wpAnyH_take (i := 16) (v := undef) rfl (by kernel_rfl) (by kernel_rfl) (by kernel_rfl) (fun _ _ _ h => h) (Or.inr ⟨by kernel_rfl, rfl⟩) hHeld ?_
              refine wpAnyH_take (i := 17) (v := undef) rfl (by kernel_rfl) (by kernel_rfl) (by kernel_rfl) (fun _ _ _ h => h) (Or.inr ⟨by kernel_rfl, rfl⟩) hHeld ?_
              refine wpAnyH_take (i := 18) (v := undef) rfl (by kernel_rfl) (by kernel_rfl) (by kernel_rfl) (fun _ _ _ h => h) (Or.inr ⟨by kernel_rfl, rfl⟩) hHeld ?_
              refine wpAnyH_take (i := 19) (v := undef) rfl (by kernel_rfl) (by kernel_rfl) (by kernel_rfl) (fun _ _ _ h => h) (Or.inr ⟨by kernel_rfl, rfl⟩) hHeld ?_
              refine wpAnyH_take (i := 20) (v := undef) rfl (by kernel_rfl) (by kernel_rfl) (by kernel_rfl) (fun _ _ _ h => h) (Or.inr ⟨by kernel_rfl, rfl⟩) hHeld ?_
              refine wpAnyH_take (i := 21) (v := .bool false) rfl (by kernel_rfl) (by kernel_rfl) (by kernel_rfl) (fun _ _ _ h => h) (Or.inl ⟨by kernel_rfl, fun w _ => by kernel_rfl⟩) hHeld ?_
              refine wpAnyH_take (i := 22) (v := .bool false) rfl (by kernel_rfl) (by kernel_rfl) (by kernel_rfl) (fun _ _ _ h => h) (Or.inl ⟨by kernel_rfl, fun w _ => by kernel_rfl⟩) hHeld ?_
              refine wpAnyH_take (i := 23) (v := .bool false) rfl (by kernel_rfl) (by kernel_rfl) (by kernel_rfl) (fun _ _ _ h => h) (Or.inl ⟨by kernel_rfl, fun w _ => by kernel_rfl⟩) hHeld ?_
              refine wpAnyH_done (by kernel_rfl) ?_ _
              exact ⟨.bool true, .bool true, .int .i64 P, .int .i64 prio, .bool false, .bool false, .int .i64 P, .int .i64 prio, .bool false, .bool false, undef, undef, undef, undef, undef, undef, undef, undef, undef, undef, undef, .bool false, .bool false, by kernel_rfl, hid (Kp.drew _ _)⟩
            · rintro e a' W4 hpost
              cases e with
              | normal =>
                obtain ⟨t30, t31, t32, t33, t34, t35, t36, t37, t38, t39, t40, t41, t42, t43, t44, t45, t46, t47, t48, t49, t50, t51, t52, rfl, k4⟩ := hpost
                have K4 := hid (hK.out.trans k4.out)
                clear k4
                go_wp2
                go_roundw
                case rel => exact ⟨t + 1, want, prio, by omega, by simp, rfl, rfl, S3, K4⟩
                case measure => simp [intOf]; omega
              | _ => exact hpost.elim
    · have hltI : ¬ (t : Int) < 16 := by omega
      have SE := hid (scn_end HOK.out H.out.cw (show Scn L c 16 want prio by have := hS.out; rw [show t = 16 by omega] at this; exact this))
      have HT := hid (H.out.same hK.out)
      clear hS
      obtain ⟨R, hw1, hw2⟩ := HT.out.ex
      have ct := hw1.take
      have W1 := hid (And.intro hw1 hw2)
      clear hw1 hw2
      rcases SE.out with ⟨hB, hw⟩ | ⟨hB, hw⟩
      · have hl : takeL L = L := by unfold takeL; rw [hB]; rfl
        rw [hB, hl] at ct
        obtain ⟨E, hE⟩ : ∃ E, fstT L = E := ⟨_, rfl⟩
        rw [hE] at ct
        have HL := hid hl
        have hwn : want < 0 := by omega
        clear hB hw hE hl
        go_wp2_with fail
        refine ct.mono ?_
        rintro e w1 ⟨rfl, R', c1, c2, c3⟩
        have T1 := hid ((tq_of HT.out W1.out.1 W1.out.2 c1 c2 c3).tk HT.out.cw)
        clear c1 c2 c3
        go_wp2
        go_ret
        exact ⟨rfl, c, by rw [HL.out]; exact T1.out⟩
      · have hh := fst_has HOK.out hB
        have hl : takeL L = delP L (fstT L) := by unfold takeL; rw [hB]; rfl
        rw [hB, hl, hw] at ct
        rw [hw] at hh hl
        have HL := hid hl
        have hrg : 0 ≤ want ∧ want < 16 := by
          obtain ⟨x, hx, e⟩ := mem_has.1 hh
          have := (HOK.out.rng x hx).1
          omega
        obtain ⟨m, rfl⟩ : ∃ m : Nat, want = m := ⟨want.toNat, by omega⟩
        have hm16 : m < 16 := by omega
        have hmI : (m : Int) < 16 := by omega
        have CW := hid (show Cw ((delP L m).map (·.1)) (updC c m 0) n by
          rw [del_keys]
          have := H.out.cw.del HOK.out.keys hrg
          rw [show ((m : Int)).toNat = m by omega] at this
          exact this)
        have HN := hid (show hasP (delP L m) m = false from has_none.2 (by rw [del_keys]; simp))
        clear hB hw hl hh hrg
        go_wp2_with fail
        refine ct.mono ?_
        rintro e w1 ⟨rfl, R', c1, c2, c3⟩
        have T1 := hid (tq_of HT.out W1.out.1 W1.out.2 c1 c2 c3)
        obtain ⟨q1, q2⟩ := T1.out.cm.cell hm16
        have T2 := hid (T1.out.set hm16 CW.out)
        have ch := has_any _ _ _ m T2.out.vw (by constructor <;> omega)
        rw [HN.out] at ch
        clear c1 c2 c3
        go_wp2_with fail
        refine ch.mono ?_
        rintro e w2 ⟨rfl, hw2⟩
        have T3 := hid (show Tk w0 w2 wb cb (delP L m) (updC c m 0) n by rw [hw2]; exact T2.out)
        clear hw2
        go_wp2
        go_ret
        exact ⟨rfl, _, by rw [HL.out]; exact T3.out⟩
end Go.Proofs.Ytcmmckgoiaholaa
