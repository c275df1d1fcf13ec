/- Clone, Copy. -/
import Derived.Test.YtoaceeddcnijoaaTake
import Derived.Test.YtoaceeddcnijoaaNew
import Derived.Test.YtoaceeddcnijoaaShelf
import Derived.Shelf.SlicesE.Clone
namespace Go.Proofs.Ytoaceeddcnijoaa
open Go.RowKit Go.Shelf Go.Lib Go.Sort

theorem clone_any (w : World) (v : Value) (l : List Dl) (h : Dr w 0 v l) (hl : l.length ≤ 100000) : Calls Try.prog 31 #[v] w fun e w' => ∃ v', e = .returned v' ∧ Dr w' w.heap.size v' l ∧ Kp w w' [] := by
  obtain ⟨ao, cap, rfl⟩ := h.slice
  cases ao with
  | none =>
    obtain ⟨rfl, -, -⟩ := h.none_of
    refine (AnyE.slices_Clone_nil Try.lCl _ _ w).mono ?_
    rintro e w' ⟨rfl, rfl⟩
    exact ⟨_, rfl, Dr.nil _ _, Kp.refl _ _⟩
  | some ad =>
    obtain ⟨g, rfl⟩ := h.some_of
    obtain ⟨i0, hi, hz0, hz1, hz2⟩ := info_parts Try.infoD
    refine (AnyE.slices_Clone Try.lCl i0 (.agg #[.int .i64 0, .int .i64 0]) 2 16 hi hz0 hz1 hz2 rfl (by decide) (by intro W; kernel_rfl) g 0 l.length cap (dcells l) w (dcells_length l) (by unfold maxLen; omega) (by omega) (fun j u hu => by
      have := h.cells j u hu
      rw [Addr.add_lit] at this
      exact this) (dcells_one l)).mono ?_
    rintro e w' ⟨v', rfl, h1, -, h2⟩
    exact ⟨v', rfl, h1, Kp.of_below h2⟩

/-- Copy, under way. -/
structure Cy (w wr : World) (D : Nat → List Dl) (k : Nat) : Prop where
  ex : ∃ F1, Wh wr w.heap.size F1 (fun s => if s < k then D s else []) ∧ ∀ s g, s < 64 → (F1 s).ownBlock = some g → w.heap.size ≤ g
  kp : Kp w wr []
theorem Cy.put {w wr w9 : World} {D : Nat → List Dl} {k : Nat} (h : Cy w wr D k) (hk : k < 64) (hkp : Kp wr w9 []) {v : Value} (hd : Dr w9 wr.heap.size v (D k)) : Cy w (w9.setCell ⟨w.heap.size, k, none⟩ v) D (k + 1) := by
  obtain ⟨F1, a, b⟩ := h.ex
  have hb : ∀ g, v.ownBlock = some g → wr.heap.size ≤ g := fun g hg => (owns_block hd hg).1
  have r := a.ring hk hkp (by simp) (hd.low (Nat.zero_le _)) (fun g hg => .inr (hb g hg))
  have hz := h.kp.size
  refine ⟨⟨_, r.ext fun s hs => ?_, fun s g hs hg => ?_⟩, (h.kp.trans hkp).past (Kp.setCell w9 ⟨w.heap.size, k, none⟩ v) (by intro x hx hl; simp at hx; omega)⟩
  · show (if s = k then D k else if s < k then D s else []) = if s < k + 1 then D s else []
    by_cases e : s = k
    · subst e; simp
    · by_cases q : s < k
      · rw [if_neg e, if_pos q, if_pos (by omega)]
      · rw [if_neg e, if_neg q, if_neg (by omega)]
  · unfold updV at hg
    by_cases e : s = k
    · rw [if_pos e] at hg
      have := hb g hg
      omega
    · rw [if_neg e] at hg
      exact b s g hs hg
set_option maxRecDepth 100000 in
set_option maxHeartbeats 2000000 in
theorem copy_any (w : World) (wb : Nat) (F : Nat → Value) (D : Nat → List Dl) (h : Wh w wb F D) (hl : (cat D 64).length ≤ 100000) :
    Calls Try.prog 14 #[.pointer (some ⟨wb, 0, none⟩)] w fun e w' => e = .returned (.pointer (some ⟨w.heap.size, 0, none⟩)) ∧ (∃ F', Wh w' w.heap.size F' D ∧ ∀ s g, s < 64 → (F' s).ownBlock = some g → w.heap.size ≤ g) ∧ Kp w w' [] := by
  have H := hid h
  have HL := hid hl
  have hsz := size48 F
  obtain ⟨AR, hAR⟩ : ∃ AR, vcl F 64 0 = AR := ⟨_, rfl⟩
  have HX := hid (show ∀ k, k < 64 → ∀ ao m cap, F k = .slice ao m cap → ∀ W, (Instr.index 48 (.agg AR.toArray) (.int .i64 k)).run Try.prog W = .ok (.slice ao m cap) W from by rw [← hAR]; exact fun k hk ao m cap hF W => index_at F k hk ao m cap hF W)
  rw [hAR] at hsz
  have HAR := hid hAR
  have HSZ := hid hsz
  clear h hl hAR hsz
  go_enter Try.func14, Try.ntmps14
  go_wp2_with fail
  refine (zero_no w wb F D H.out).mono ?_
  rintro e w1 ⟨rfl, hw1⟩
  have hw1 := hw1.symm
  subst hw1
  go_wp2_with fail
  refine (new_any w).mono ?_
  rintro e w1 ⟨rfl, hW, hk⟩
  have H1 := hid (show Cy w w1 D 0 from ⟨⟨_, hW.ext (fun s _ => by simp), fun s g _ hg => by simp [Value.ownBlock] at hg⟩, hk⟩)
  have HR1 := hid (show w1.rangeAt wb 0 AR by rw [← HAR.out]; exact (H.out.same hk).range)
  clear hW hk
  go_wp2_with (refine wpList_load_mid rfl _ _ rfl wb 0 rfl AR _ HR1.out Try.underlying48 rfl HSZ.out ?_)
  go_loopw [13] (fun vi wr => ∃ k : Nat, k ≤ 64 ∧ vi = .int .i64 k ∧ Hid (Cy w wr D k)) (fun vi _ => 64 - (intOf vi).toNat)
  case atStart => exact ⟨0, by omega, rfl, H1⟩
  case round =>
    obtain ⟨k, hk, rfl, hR⟩ := hrel
    by_cases hlt : k < 64
    · have hltI : (k : Int) < 64 := by omega
      obtain ⟨ak, ck, hF⟩ := (H.out.row k hlt).slice
      obtain ⟨N, hN⟩ : ∃ N, (D k).length = N := ⟨_, rfl⟩
      rw [hN] at hF
      have hix := HX.out k hlt ak N ck hF
      have CL := hid (fun (W : World) (hK : Kp wr W []) => (show Calls Try.prog 31 #[.slice ak N ck] W fun e w' => ∃ v', e = .returned v' ∧ Dr w' W.heap.size v' (D k) ∧ Kp W w' [] from by
        have hr := (H.out.row k hlt).keep (hR.out.kp.trans hK)
        rw [hF] at hr
        exact clone_any W _ (D k) hr (by have := ring_le D hlt; have := HL.out; omega)))
      obtain ⟨F1, hF1, -⟩ := hR.out.ex
      have hcell := hF1.cell hlt
      have hfz := hid (fun (W : World) (hK : Kp wr W []) => (show W.cell? ⟨w.heap.size, k, none⟩ = some (F1 k) ∧ W.frozen? ⟨w.heap.size, k, none⟩ = false from ⟨hK.cell hcell (by simp), (hF1.same hK).free k⟩))
      clear hF1 hcell hF hN
      go_wp2_with fail
      go_region_held_law (fun _ => True) (trivial) (first | (go_at_call 31; refine (CL.out _ ?_).mono ?_; exact Kp.drew _ _; rintro e w9 ⟨v9, rfl, hD9, hK9⟩; obtain ⟨a9, c9, hv9⟩ := hD9.slice; have K9 := hid ((Kp.drew _ _).trans hK9); obtain ⟨q1, q2⟩ := hfz.out _ K9.out; have HD9 := hid hD9; obtain ⟨n9, hn9⟩ : ∃ n9, (D k).length = n9 := ⟨_, rfl⟩; rw [hn9] at hv9; subst hv9; clear hD9 hK9 hn9) | fail)
      have U3 := hid (Cy.put hR.out hlt K9.out HD9.out)
      clear q1 q2 CL hfz hix
      go_wp2
      go_roundw
      case rel => exact ⟨k + 1, by omega, by simp, U3⟩
      case measure => simp [intOf]; omega
    · have hltI : ¬ (k : Int) < 64 := by omega
      have HF := hid (show (∃ F', Wh wr w.heap.size F' D ∧ ∀ s g, s < 64 → (F' s).ownBlock = some g → w.heap.size ≤ g) ∧ Kp w wr [] by
        obtain ⟨F1, a, b⟩ := hR.out.ex
        exact ⟨⟨F1, a.ext fun s hs => by rw [if_pos (by omega)], b⟩, hR.out.kp⟩)
      go_wp2
      go_ret
      exact ⟨rfl, HF.out⟩
end Go.Proofs.Ytoaceeddcnijoaa
