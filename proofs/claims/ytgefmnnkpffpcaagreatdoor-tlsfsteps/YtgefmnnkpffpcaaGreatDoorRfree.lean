/- The reference: free. -/
import Derived.Test.YtgefmnnkpffpcaaGreatDoorRputJ
namespace Go.Proofs.YtgefmnnkpffpcaaGreatDoor
open Go.RowKit Go.Maps
set_option linter.unusedVariables false

theorem mid_at (A r : List Bl) (x : Bl) : (A ++ x :: r)[A.length]! = x := by
  rw [getElem!_pos _ _ (by simp)]
  simp
theorem mid_next (A r : List Bl) (x y : Bl) : (A ++ x :: y :: r)[A.length + 1]! = y := by
  rw [getElem!_pos _ _ (by simp)]
  simp
theorem mid_set (A r : List Bl) (x y : Bl) : (A ++ x :: r).set A.length y = A ++ y :: r := by simp
section
variable {w : World} {hb : Nat} {V mv : Value} {G : Nat → Value} {A r : List Bl} {F : Nat → List Int} {a z b t : Int} {f f2 : Bool} {i : Nat}
theorem rput_mid (h : Rh w hb V G mv (A ++ (a, z, f) :: r) F) (hi : i = A.length) (hl : (A ++ (a, z, f) :: r).length ≤ 100000) (hz : 16 ≤ z) (hz2 : z < 65536) (hF : (F (kl z)).length ≤ 10000) :
    Calls Tryz.prog 32 #[.pointer (some ⟨hb, 0, none⟩), .int .i64 i] w fun e w' => e = .returned (.tuple #[]) ∧ Rg w w' hb V G mv (A ++ (a, z, true) :: r) (adF F (kl z) a) := by
  subst hi
  have := rput_any w hb V mv G _ F A.length a z f h hl (by simp) (mid_at _ _ _) hz hz2 hF
  rw [mid_set] at this
  exact this
theorem rout_mid (h : Rh w hb V G mv (A ++ (a, z, f) :: r) F) (hi : i = A.length) (hl : (A ++ (a, z, f) :: r).length ≤ 100000) (hz : 16 ≤ z) (hz2 : z < 65536) (hF : (F (kl z)).length ≤ 10000) :
    Calls Tryz.prog 83 #[.pointer (some ⟨hb, 0, none⟩), .int .i64 i] w fun e w' => e = .returned (.tuple #[]) ∧ Rg w w' hb V G mv (A ++ (a, z, false) :: r) (rmF F (kl z) a) := by
  subst hi
  have := rout_any w hb V mv G _ F A.length a z f h hl (by simp) (mid_at _ _ _) hz hz2 hF
  rw [mid_set] at this
  exact this
theorem rout_next (h : Rh w hb V G mv (A ++ (a, z, f) :: (b, t, f2) :: r) F) (hi : i = A.length + 1) (hl : (A ++ (a, z, f) :: (b, t, f2) :: r).length ≤ 100000) (hz : 16 ≤ t) (hz2 : t < 65536) (hF : (F (kl t)).length ≤ 10000) :
    Calls Tryz.prog 83 #[.pointer (some ⟨hb, 0, none⟩), .int .i64 i] w fun e w' => e = .returned (.tuple #[]) ∧ Rg w w' hb V G mv (A ++ (a, z, f) :: (b, t, false) :: r) (rmF F (kl t) b) := by
  have e1 : A ++ (a, z, f) :: (b, t, f2) :: r = (A ++ [(a, z, f)]) ++ (b, t, f2) :: r := by simp
  rw [e1] at h hl
  have := rout_mid (i := i) h (by simp; exact hi) hl hz hz2 hF
  simpa using this
theorem rjoin_mid (h : Rh w hb V G mv (A ++ (a, z, f) :: (b, t, f2) :: r) F) (hi : i = A.length) (hl : (A ++ (a, z, f) :: (b, t, f2) :: r).length ≤ 100000) (hz : 0 ≤ z) (hz2 : z ≤ 1000000) (hy : 0 ≤ t) (hy2 : t ≤ 1000000) :
    Calls Tryz.prog 84 #[.pointer (some ⟨hb, 0, none⟩), .int .i64 i] w fun e w' => e = .returned (.tuple #[]) ∧ Rg w w' hb V G mv (A ++ (a, z + t, f) :: r) F := by
  subst hi
  have := rjoin_any w hb V mv G _ F A.length a z b t f f2 h hl (by simp) (mid_at _ _ _) (mid_next _ _ _ _) hz hz2 hy hy2
  have e1 : (A ++ (a, z, f) :: (b, t, f2) :: r).take A.length = A := by simp
  have e2 : (A ++ (a, z, f) :: (b, t, f2) :: r).drop (A.length + 2) = r := by
    rw [List.drop_append, List.drop_eq_nil_of_le (by omega), show A.length + 2 - A.length = 2 by omega]
    rfl
  rw [e1, e2] at this
  exact this
end
theorem rm_len (F : Nat → List Int) (k : Nat) (x : Int) (c : Nat) : (rmF F k x c).length ≤ (F c).length := by
  unfold rmF
  split
  · rename_i h; subst h; exact List.length_filter_le _ _
  · exact Nat.le_refl _
set_option maxRecDepth 100000 in
set_option maxHeartbeats 1000000 in
theorem rfree_00 (w : World) (hb : Nat) (V mv : Value) (G : Nat → Value) (A r : List Bl) (F : Nat → List Int) (a z b t q s : Int) (f : Bool) (i : Nat) (h : Rh w hb V G mv (([] : List Bl) ++ (a, z, f) :: []) F) (hi : i = ([] : List Bl).length) (hl : (([] : List Bl) ++ (a, z, f) :: []).length ≤ 100000) (hz : 16 ≤ z) (ht : 16 ≤ t) (hs : 16 ≤ s) (hm : s + z + t < 65536) (hF : ∀ c, (F c).length ≤ 10000) :
    Calls Tryz.prog 82 #[.pointer (some ⟨hb, 0, none⟩), .int .i64 i] w fun e w' => e = .returned (.tuple #[]) ∧ Rg w w' hb V G mv (([] : List Bl) ++ (a, z, true) :: []) (adF F (kl z) a) := by
  have H0 := hid h
  have c0 := h.b
  obtain ⟨ao, cap, rfl⟩ := h.row.slice
  obtain ⟨N, hN⟩ : ∃ N, (([] : List Bl) ++ (a, z, f) :: []).length = N := ⟨_, rfl⟩
  obtain ⟨i1, hi1⟩ : ∃ i1, i + 1 = i1 := ⟨_, rfl⟩
  have hNl := hN
  simp at hNl hi
  have hw1 : IntKind.i64.wrap ((i : Int) + 1) = (i1 : Int) := by rw [← hi1]; exact IntWalk.i64_in _ ⟨by omega, by omega⟩
  have j1 : ¬ (i1 : Int) < N := by omega
  have j2 : ¬ (0 : Int) < (i : Int) := by omega
  rw [hN] at c0
  have HN := hid (And.intro hN (And.intro hi hi1))
  clear h hN hi hi1 hNl
  go_enter Tryz.func82, Tryz.ntmps82
  go_wp2_with fail
  refine (rput_mid H0.out (by have := HN.out.2; first | (simp; done) | (simp; omega) | omega) (by have := hl; first | (simp at this ⊢; done) | (simp at this ⊢; omega)) (by omega) (by omega) (hF _)).mono ?_
  rintro e w5 ⟨rfl, hR⟩
  have HR := hid hR
  clear hR
  go_wp2
  try rw [Exit.noGoto_normal]
  refine bodyPost_end (results_none rfl _ _ _) rfl ?_
  exact ⟨rfl, HR.out⟩
set_option maxRecDepth 100000 in
set_option maxHeartbeats 1000000 in
theorem rfree_01 (w : World) (hb : Nat) (V mv : Value) (G : Nat → Value) (A r : List Bl) (F : Nat → List Int) (a z b t q s : Int) (f : Bool) (i : Nat) (h : Rh w hb V G mv ((A ++ [(q, s, false)]) ++ (a, z, f) :: []) F) (hi : i = (A ++ [(q, s, false)]).length) (hl : ((A ++ [(q, s, false)]) ++ (a, z, f) :: []).length ≤ 100000) (hz : 16 ≤ z) (ht : 16 ≤ t) (hs : 16 ≤ s) (hm : s + z + t < 65536) (hF : ∀ c, (F c).length ≤ 10000) :
    Calls Tryz.prog 82 #[.pointer (some ⟨hb, 0, none⟩), .int .i64 i] w fun e w' => e = .returned (.tuple #[]) ∧ Rg w w' hb V G mv ((A ++ [(q, s, false)]) ++ (a, z, true) :: []) (adF F (kl z) a) := by
  have H0 := hid h
  have c0 := h.b
  obtain ⟨ao, cap, rfl⟩ := h.row.slice
  obtain ⟨N, hN⟩ : ∃ N, ((A ++ [(q, s, false)]) ++ (a, z, f) :: []).length = N := ⟨_, rfl⟩
  obtain ⟨i1, hi1⟩ : ∃ i1, i + 1 = i1 := ⟨_, rfl⟩
  have hNl := hN
  simp at hNl hi
  have hw1 : IntKind.i64.wrap ((i : Int) + 1) = (i1 : Int) := by rw [← hi1]; exact IntWalk.i64_in _ ⟨by omega, by omega⟩
  have j1 : ¬ (i1 : Int) < N := by omega
  obtain ⟨i0, hi0⟩ : ∃ i0 : Nat, A.length = i0 := ⟨_, rfl⟩
  have j2 : (0 : Int) < (i : Int) := by omega
  have hw0 : IntKind.i64.wrap ((i : Int) - 1) = (i0 : Int) := by rw [show (i : Int) - 1 = (i0 : Int) by omega]; exact IntWalk.i64_in _ ⟨by omega, by omega⟩
  have j3a : (i0 : Int) < N := by omega
  obtain ⟨gpa, hgpa, -, -, cpa, -, -, -⟩ := h.row.at (k := i0) (by omega) (show ((A ++ [(q, s, false)]) ++ (a, z, f) :: [])[i0]! = (q, s, false) by
    have := mid_at A ((a, z, f) :: []) (q, s, false)
    rw [hi0] at this
    simpa using this)
  subst hgpa
  rw [hN] at c0
  have HN := hid (And.intro hN (And.intro hi hi1))
  have HI0 := hid hi0
  clear h hN hi hi1 hNl hi0
  go_enter Tryz.func82, Tryz.ntmps82
  go_wp2_with fail
  refine (rput_mid H0.out (by have := HN.out.2; first | (simp; done) | (simp; omega) | omega) (by have := hl; first | (simp at this ⊢; done) | (simp at this ⊢; omega)) (by omega) (by omega) (hF _)).mono ?_
  rintro e w5 ⟨rfl, hR⟩
  have HR := hid hR
  clear hR
  go_wp2
  try rw [Exit.noGoto_normal]
  refine bodyPost_end (results_none rfl _ _ _) rfl ?_
  exact ⟨rfl, HR.out⟩
set_option maxRecDepth 100000 in
set_option maxHeartbeats 1000000 in
theorem rfree_02 (w : World) (hb : Nat) (V mv : Value) (G : Nat → Value) (A r : List Bl) (F : Nat → List Int) (a z b t q s : Int) (f : Bool) (i : Nat) (h : Rh w hb V G mv ((A ++ [(q, s, true)]) ++ (a, z, f) :: []) F) (hi : i = (A ++ [(q, s, true)]).length) (hl : ((A ++ [(q, s, true)]) ++ (a, z, f) :: []).length ≤ 100000) (hz : 16 ≤ z) (ht : 16 ≤ t) (hs : 16 ≤ s) (hm : s + z + t < 65536) (hF : ∀ c, (F c).length ≤ 10000) :
    Calls Tryz.prog 82 #[.pointer (some ⟨hb, 0, none⟩), .int .i64 i] w fun e w' => e = .returned (.tuple #[]) ∧ Rg w w' hb V G mv (A ++ (q, s + z, true) :: []) (adF (rmF F (kl s) q) (kl (s + z)) q) := by
  have H0 := hid h
  have c0 := h.b
  obtain ⟨ao, cap, rfl⟩ := h.row.slice
  obtain ⟨N, hN⟩ : ∃ N, ((A ++ [(q, s, true)]) ++ (a, z, f) :: []).length = N := ⟨_, rfl⟩
  obtain ⟨i1, hi1⟩ : ∃ i1, i + 1 = i1 := ⟨_, rfl⟩
  have hNl := hN
  simp at hNl hi
  have hw1 : IntKind.i64.wrap ((i : Int) + 1) = (i1 : Int) := by rw [← hi1]; exact IntWalk.i64_in _ ⟨by omega, by omega⟩
  have j1 : ¬ (i1 : Int) < N := by omega
  obtain ⟨i0, hi0⟩ : ∃ i0 : Nat, A.length = i0 := ⟨_, rfl⟩
  have j2 : (0 : Int) < (i : Int) := by omega
  have hw0 : IntKind.i64.wrap ((i : Int) - 1) = (i0 : Int) := by rw [show (i : Int) - 1 = (i0 : Int) by omega]; exact IntWalk.i64_in _ ⟨by omega, by omega⟩
  have j3a : (i0 : Int) < N := by omega
  obtain ⟨gpa, hgpa, -, -, cpa, -, -, -⟩ := h.row.at (k := i0) (by omega) (show ((A ++ [(q, s, true)]) ++ (a, z, f) :: [])[i0]! = (q, s, true) by
    have := mid_at A ((a, z, f) :: []) (q, s, true)
    rw [hi0] at this
    simpa using this)
  subst hgpa
  rw [hN] at c0
  have HN := hid (And.intro hN (And.intro hi hi1))
  have HI0 := hid hi0
  clear h hN hi hi1 hNl hi0
  go_enter Tryz.func82, Tryz.ntmps82
  go_wp2_with fail
  refine (rout_mid (A := A) (a := q) (z := s) (f := true) (r := (a, z, f) :: []) (F := F) (by have := H0.out; simpa using this) HI0.out.symm (by have := hl; first | (simp at this ⊢; done) | (simp at this ⊢; omega)) hs (by omega) (hF _)).mono ?_
  rintro e w3 ⟨rfl, V3, G3, h3, k3, v3⟩
  have H3 := hid h3
  have P3 := hid (And.intro k3 v3)
  clear h3 k3 v3
  go_wp2_with fail
  refine (rjoin_mid H3.out HI0.out.symm (by have := hl; first | (simp at this ⊢; done) | (simp at this ⊢; omega)) (by omega) (by omega) (by omega) (by omega)).mono ?_
  rintro e w4 ⟨rfl, V4, G4, h4, k4, v4⟩
  have H4 := hid h4
  have P4 := hid (And.intro k4 v4)
  clear h4 k4 v4
  go_wp2_with fail
  refine (rput_mid H4.out HI0.out.symm (by have := hl; first | (simp at this ⊢; done) | (simp at this ⊢; omega)) (by omega) (by omega) (Nat.le_trans (rm_len _ _ _ _) (hF _))).mono ?_
  rintro e w5 ⟨rfl, hR⟩
  have HR := hid (Rg.past P3.out.1 P3.out.2 (Rg.past P4.out.1 P4.out.2 hR))
  clear hR
  go_wp2
  try rw [Exit.noGoto_normal]
  refine bodyPost_end (results_none rfl _ _ _) rfl ?_
  exact ⟨rfl, HR.out⟩
set_option maxRecDepth 100000 in
set_option maxHeartbeats 1000000 in
theorem rfree_10 (w : World) (hb : Nat) (V mv : Value) (G : Nat → Value) (A r : List Bl) (F : Nat → List Int) (a z b t q s : Int) (f : Bool) (i : Nat) (h : Rh w hb V G mv (([] : List Bl) ++ (a, z, f) :: ((b, t, false) :: r)) F) (hi : i = ([] : List Bl).length) (hl : (([] : List Bl) ++ (a, z, f) :: ((b, t, false) :: r)).length ≤ 100000) (hz : 16 ≤ z) (ht : 16 ≤ t) (hs : 16 ≤ s) (hm : s + z + t < 65536) (hF : ∀ c, (F c).length ≤ 10000) :
    Calls Tryz.prog 82 #[.pointer (some ⟨hb, 0, none⟩), .int .i64 i] w fun e w' => e = .returned (.tuple #[]) ∧ Rg w w' hb V G mv (([] : List Bl) ++ (a, z, true) :: ((b, t, false) :: r)) (adF F (kl z) a) := by
  have H0 := hid h
  have c0 := h.b
  obtain ⟨ao, cap, rfl⟩ := h.row.slice
  obtain ⟨N, hN⟩ : ∃ N, (([] : List Bl) ++ (a, z, f) :: ((b, t, false) :: r)).length = N := ⟨_, rfl⟩
  obtain ⟨i1, hi1⟩ : ∃ i1, i + 1 = i1 := ⟨_, rfl⟩
  have hNl := hN
  simp at hNl hi
  have hw1 : IntKind.i64.wrap ((i : Int) + 1) = (i1 : Int) := by rw [← hi1]; exact IntWalk.i64_in _ ⟨by omega, by omega⟩
  have j1 : (i1 : Int) < N := by omega
  obtain ⟨g, hg, -, -, c1, -, -, -⟩ := h.row.at (k := i1) (by omega) (show (([] : List Bl) ++ (a, z, f) :: ((b, t, false) :: r))[i1]! = (b, t, false) by
    have := mid_next ([] : List Bl) r (a, z, f) (b, t, false)
    rw [show ([] : List Bl).length + 1 = i1 by simp; omega] at this
    exact this)
  subst hg
  have j2 : ¬ (0 : Int) < (i : Int) := by omega
  rw [hN] at c0
  have HN := hid (And.intro hN (And.intro hi hi1))
  clear h hN hi hi1 hNl
  go_enter Tryz.func82, Tryz.ntmps82
  go_wp2_with fail
  refine (rput_mid H0.out (by have := HN.out.2; first | (simp; done) | (simp; omega) | omega) (by have := hl; first | (simp at this ⊢; done) | (simp at this ⊢; omega)) (by omega) (by omega) (hF _)).mono ?_
  rintro e w5 ⟨rfl, hR⟩
  have HR := hid hR
  clear hR
  go_wp2
  try rw [Exit.noGoto_normal]
  refine bodyPost_end (results_none rfl _ _ _) rfl ?_
  exact ⟨rfl, HR.out⟩
set_option maxRecDepth 100000 in
set_option maxHeartbeats 1000000 in
theorem rfree_11 (w : World) (hb : Nat) (V mv : Value) (G : Nat → Value) (A r : List Bl) (F : Nat → List Int) (a z b t q s : Int) (f : Bool) (i : Nat) (h : Rh w hb V G mv ((A ++ [(q, s, false)]) ++ (a, z, f) :: ((b, t, false) :: r)) F) (hi : i = (A ++ [(q, s, false)]).length) (hl : ((A ++ [(q, s, false)]) ++ (a, z, f) :: ((b, t, false) :: r)).length ≤ 100000) (hz : 16 ≤ z) (ht : 16 ≤ t) (hs : 16 ≤ s) (hm : s + z + t < 65536) (hF : ∀ c, (F c).length ≤ 10000) :
    Calls Tryz.prog 82 #[.pointer (some ⟨hb, 0, none⟩), .int .i64 i] w fun e w' => e = .returned (.tuple #[]) ∧ Rg w w' hb V G mv ((A ++ [(q, s, false)]) ++ (a, z, true) :: ((b, t, false) :: r)) (adF F (kl z) a) := by
  have H0 := hid h
  have c0 := h.b
  obtain ⟨ao, cap, rfl⟩ := h.row.slice
  obtain ⟨N, hN⟩ : ∃ N, ((A ++ [(q, s, false)]) ++ (a, z, f) :: ((b, t, false) :: r)).length = N := ⟨_, rfl⟩
  obtain ⟨i1, hi1⟩ : ∃ i1, i + 1 = i1 := ⟨_, rfl⟩
  have hNl := hN
  simp at hNl hi
  have hw1 : IntKind.i64.wrap ((i : Int) + 1) = (i1 : Int) := by rw [← hi1]; exact IntWalk.i64_in _ ⟨by omega, by omega⟩
  have j1 : (i1 : Int) < N := by omega
  obtain ⟨g, hg, -, -, c1, -, -, -⟩ := h.row.at (k := i1) (by omega) (show ((A ++ [(q, s, false)]) ++ (a, z, f) :: ((b, t, false) :: r))[i1]! = (b, t, false) by
    have := mid_next (A ++ [(q, s, false)]) r (a, z, f) (b, t, false)
    rw [show (A ++ [(q, s, false)]).length + 1 = i1 by simp; omega] at this
    exact this)
  subst hg
  obtain ⟨i0, hi0⟩ : ∃ i0 : Nat, A.length = i0 := ⟨_, rfl⟩
  have j2 : (0 : Int) < (i : Int) := by omega
  have hw0 : IntKind.i64.wrap ((i : Int) - 1) = (i0 : Int) := by rw [show (i : Int) - 1 = (i0 : Int) by omega]; exact IntWalk.i64_in _ ⟨by omega, by omega⟩
  have j3a : (i0 : Int) < N := by omega
  obtain ⟨gpa, hgpa, -, -, cpa, -, -, -⟩ := h.row.at (k := i0) (by omega) (show ((A ++ [(q, s, false)]) ++ (a, z, f) :: ((b, t, false) :: r))[i0]! = (q, s, false) by
    have := mid_at A ((a, z, f) :: ((b, t, false) :: r)) (q, s, false)
    rw [hi0] at this
    simpa using this)
  cases hgpa
  rw [hN] at c0
  have HN := hid (And.intro hN (And.intro hi hi1))
  have HI0 := hid hi0
  clear h hN hi hi1 hNl hi0
  go_enter Tryz.func82, Tryz.ntmps82
  go_wp2_with fail
  refine (rput_mid H0.out (by have := HN.out.2; first | (simp; done) | (simp; omega) | omega) (by have := hl; first | (simp at this ⊢; done) | (simp at this ⊢; omega)) (by omega) (by omega) (hF _)).mono ?_
  rintro e w5 ⟨rfl, hR⟩
  have HR := hid hR
  clear hR
  go_wp2
  try rw [Exit.noGoto_normal]
  refine bodyPost_end (results_none rfl _ _ _) rfl ?_
  exact ⟨rfl, HR.out⟩
set_option maxRecDepth 100000 in
set_option maxHeartbeats 1000000 in
theorem rfree_12 (w : World) (hb : Nat) (V mv : Value) (G : Nat → Value) (A r : List Bl) (F : Nat → List Int) (a z b t q s : Int) (f : Bool) (i : Nat) (h : Rh w hb V G mv ((A ++ [(q, s, true)]) ++ (a, z, f) :: ((b, t, false) :: r)) F) (hi : i = (A ++ [(q, s, true)]).length) (hl : ((A ++ [(q, s, true)]) ++ (a, z, f) :: ((b, t, false) :: r)).length ≤ 100000) (hz : 16 ≤ z) (ht : 16 ≤ t) (hs : 16 ≤ s) (hm : s + z + t < 65536) (hF : ∀ c, (F c).length ≤ 10000) :
    Calls Tryz.prog 82 #[.pointer (some ⟨hb, 0, none⟩), .int .i64 i] w fun e w' => e = .returned (.tuple #[]) ∧ Rg w w' hb V G mv (A ++ (q, s + z, true) :: ((b, t, false) :: r)) (adF (rmF F (kl s) q) (kl (s + z)) q) := by
  have H0 := hid h
  have c0 := h.b
  obtain ⟨ao, cap, rfl⟩ := h.row.slice
  obtain ⟨N, hN⟩ : ∃ N, ((A ++ [(q, s, true)]) ++ (a, z, f) :: ((b, t, false) :: r)).length = N := ⟨_, rfl⟩
  obtain ⟨i1, hi1⟩ : ∃ i1, i + 1 = i1 := ⟨_, rfl⟩
  have hNl := hN
  simp at hNl hi
  have hw1 : IntKind.i64.wrap ((i : Int) + 1) = (i1 : Int) := by rw [← hi1]; exact IntWalk.i64_in _ ⟨by omega, by omega⟩
  have j1 : (i1 : Int) < N := by omega
  obtain ⟨g, hg, -, -, c1, -, -, -⟩ := h.row.at (k := i1) (by omega) (show ((A ++ [(q, s, true)]) ++ (a, z, f) :: ((b, t, false) :: r))[i1]! = (b, t, false) by
    have := mid_next (A ++ [(q, s, true)]) r (a, z, f) (b, t, false)
    rw [show (A ++ [(q, s, true)]).length + 1 = i1 by simp; omega] at this
    exact this)
  subst hg
  obtain ⟨i0, hi0⟩ : ∃ i0 : Nat, A.length = i0 := ⟨_, rfl⟩
  have j2 : (0 : Int) < (i : Int) := by omega
  have hw0 : IntKind.i64.wrap ((i : Int) - 1) = (i0 : Int) := by rw [show (i : Int) - 1 = (i0 : Int) by omega]; exact IntWalk.i64_in _ ⟨by omega, by omega⟩
  have j3a : (i0 : Int) < N := by omega
  obtain ⟨gpa, hgpa, -, -, cpa, -, -, -⟩ := h.row.at (k := i0) (by omega) (show ((A ++ [(q, s, true)]) ++ (a, z, f) :: ((b, t, false) :: r))[i0]! = (q, s, true) by
    have := mid_at A ((a, z, f) :: ((b, t, false) :: r)) (q, s, true)
    rw [hi0] at this
    simpa using this)
  cases hgpa
  rw [hN] at c0
  have HN := hid (And.intro hN (And.intro hi hi1))
  have HI0 := hid hi0
  clear h hN hi hi1 hNl hi0
  go_enter Tryz.func82, Tryz.ntmps82
  go_wp2_with fail
  refine (rout_mid (A := A) (a := q) (z := s) (f := true) (r := (a, z, f) :: ((b, t, false) :: r)) (F := F) (by have := H0.out; simpa using this) HI0.out.symm (by have := hl; first | (simp at this ⊢; done) | (simp at this ⊢; omega)) hs (by omega) (hF _)).mono ?_
  rintro e w3 ⟨rfl, V3, G3, h3, k3, v3⟩
  have H3 := hid h3
  have P3 := hid (And.intro k3 v3)
  clear h3 k3 v3
  go_wp2_with fail
  refine (rjoin_mid H3.out HI0.out.symm (by have := hl; first | (simp at this ⊢; done) | (simp at this ⊢; omega)) (by omega) (by omega) (by omega) (by omega)).mono ?_
  rintro e w4 ⟨rfl, V4, G4, h4, k4, v4⟩
  have H4 := hid h4
  have P4 := hid (And.intro k4 v4)
  clear h4 k4 v4
  go_wp2_with fail
  refine (rput_mid H4.out HI0.out.symm (by have := hl; first | (simp at this ⊢; done) | (simp at this ⊢; omega)) (by omega) (by omega) (Nat.le_trans (rm_len _ _ _ _) (hF _))).mono ?_
  rintro e w5 ⟨rfl, hR⟩
  have HR := hid (Rg.past P3.out.1 P3.out.2 (Rg.past P4.out.1 P4.out.2 hR))
  clear hR
  go_wp2
  try rw [Exit.noGoto_normal]
  refine bodyPost_end (results_none rfl _ _ _) rfl ?_
  exact ⟨rfl, HR.out⟩
set_option maxRecDepth 100000 in
set_option maxHeartbeats 1000000 in
theorem rfree_20 (w : World) (hb : Nat) (V mv : Value) (G : Nat → Value) (A r : List Bl) (F : Nat → List Int) (a z b t q s : Int) (f : Bool) (i : Nat) (h : Rh w hb V G mv (([] : List Bl) ++ (a, z, f) :: ((b, t, true) :: r)) F) (hi : i = ([] : List Bl).length) (hl : (([] : List Bl) ++ (a, z, f) :: ((b, t, true) :: r)).length ≤ 100000) (hz : 16 ≤ z) (ht : 16 ≤ t) (hs : 16 ≤ s) (hm : s + z + t < 65536) (hF : ∀ c, (F c).length ≤ 10000) :
    Calls Tryz.prog 82 #[.pointer (some ⟨hb, 0, none⟩), .int .i64 i] w fun e w' => e = .returned (.tuple #[]) ∧ Rg w w' hb V G mv (([] : List Bl) ++ (a, (z + t), true) :: r) (adF (rmF F (kl t) b) (kl (z + t)) a) := by
  have H0 := hid h
  have c0 := h.b
  obtain ⟨ao, cap, rfl⟩ := h.row.slice
  obtain ⟨N, hN⟩ : ∃ N, (([] : List Bl) ++ (a, z, f) :: ((b, t, true) :: r)).length = N := ⟨_, rfl⟩
  obtain ⟨i1, hi1⟩ : ∃ i1, i + 1 = i1 := ⟨_, rfl⟩
  have hNl := hN
  simp at hNl hi
  have hw1 : IntKind.i64.wrap ((i : Int) + 1) = (i1 : Int) := by rw [← hi1]; exact IntWalk.i64_in _ ⟨by omega, by omega⟩
  have j1 : (i1 : Int) < N := by omega
  obtain ⟨g, hg, -, -, c1, -, -, -⟩ := h.row.at (k := i1) (by omega) (show (([] : List Bl) ++ (a, z, f) :: ((b, t, true) :: r))[i1]! = (b, t, true) by
    have := mid_next ([] : List Bl) r (a, z, f) (b, t, true)
    rw [show ([] : List Bl).length + 1 = i1 by simp; omega] at this
    exact this)
  subst hg
  have j2 : ¬ (0 : Int) < (i : Int) := by omega
  rw [hN] at c0
  have HN := hid (And.intro hN (And.intro hi hi1))
  clear h hN hi hi1 hNl
  go_enter Tryz.func82, Tryz.ntmps82
  go_wp2_with fail
  refine (rout_next H0.out (by have := HN.out.2; first | (simp; done) | (simp; omega) | omega) hl ht (by omega) (hF _)).mono ?_
  rintro e w1 ⟨rfl, V1, G1, h1, k1, v1⟩
  have H1 := hid h1
  have P1 := hid (And.intro k1 v1)
  clear h1 k1 v1
  go_wp2_with fail
  refine (rjoin_mid H1.out (by have := HN.out.2; first | (simp; done) | (simp; omega) | omega) (by have := hl; first | (simp at this ⊢; done) | (simp at this ⊢; omega)) (by omega) (by omega) (by omega) (by omega)).mono ?_
  rintro e w2 ⟨rfl, V2, G2, h2, k2, v2⟩
  have d0 := h2.b
  obtain ⟨ao2, cap2, rfl⟩ := h2.row.slice
  obtain ⟨N2, hN2⟩ : ∃ N2, (([] : List Bl) ++ (a, z + t, f) :: r).length = N2 := ⟨_, rfl⟩
  have hN2l := hN2
  simp at hN2l
  rw [hN2] at d0
  have H2 := hid h2
  have P2 := hid (And.intro k2 v2)
  clear h2 k2 v2 hN2 hN2l
  go_wp2_with fail
  refine (rput_mid H2.out (by have := HN.out.2; first | (simp; done) | (simp; omega) | omega) (by have := hl; first | (simp at this ⊢; done) | (simp at this ⊢; omega)) (by omega) (by omega) (Nat.le_trans (rm_len _ _ _ _) (hF _))).mono ?_
  rintro e w5 ⟨rfl, hR⟩
  have HR := hid (Rg.past P1.out.1 P1.out.2 (Rg.past P2.out.1 P2.out.2 hR))
  clear hR
  go_wp2
  try rw [Exit.noGoto_normal]
  refine bodyPost_end (results_none rfl _ _ _) rfl ?_
  exact ⟨rfl, HR.out⟩
set_option maxRecDepth 100000 in
set_option maxHeartbeats 1000000 in
theorem rfree_21 (w : World) (hb : Nat) (V mv : Value) (G : Nat → Value) (A r : List Bl) (F : Nat → List Int) (a z b t q s : Int) (f : Bool) (i : Nat) (h : Rh w hb V G mv ((A ++ [(q, s, false)]) ++ (a, z, f) :: ((b, t, true) :: r)) F) (hi : i = (A ++ [(q, s, false)]).length) (hl : ((A ++ [(q, s, false)]) ++ (a, z, f) :: ((b, t, true) :: r)).length ≤ 100000) (hz : 16 ≤ z) (ht : 16 ≤ t) (hs : 16 ≤ s) (hm : s + z + t < 65536) (hF : ∀ c, (F c).length ≤ 10000) :
    Calls Tryz.prog 82 #[.pointer (some ⟨hb, 0, none⟩), .int .i64 i] w fun e w' => e = .returned (.tuple #[]) ∧ Rg w w' hb V G mv ((A ++ [(q, s, false)]) ++ (a, (z + t), true) :: r) (adF (rmF F (kl t) b) (kl (z + t)) a) := by
  have H0 := hid h
  have c0 := h.b
  obtain ⟨ao, cap, rfl⟩ := h.row.slice
  obtain ⟨N, hN⟩ : ∃ N, ((A ++ [(q, s, false)]) ++ (a, z, f) :: ((b, t, true) :: r)).length = N := ⟨_, rfl⟩
  obtain ⟨i1, hi1⟩ : ∃ i1, i + 1 = i1 := ⟨_, rfl⟩
  have hNl := hN
  simp at hNl hi
  have hw1 : IntKind.i64.wrap ((i : Int) + 1) = (i1 : Int) := by rw [← hi1]; exact IntWalk.i64_in _ ⟨by omega, by omega⟩
  have j1 : (i1 : Int) < N := by omega
  obtain ⟨g, hg, -, -, c1, -, -, -⟩ := h.row.at (k := i1) (by omega) (show ((A ++ [(q, s, false)]) ++ (a, z, f) :: ((b, t, true) :: r))[i1]! = (b, t, true) by
    have := mid_next (A ++ [(q, s, false)]) r (a, z, f) (b, t, true)
    rw [show (A ++ [(q, s, false)]).length + 1 = i1 by simp; omega] at this
    exact this)
  subst hg
  obtain ⟨i0, hi0⟩ : ∃ i0 : Nat, A.length = i0 := ⟨_, rfl⟩
  have j2 : (0 : Int) < (i : Int) := by omega
  have hw0 : IntKind.i64.wrap ((i : Int) - 1) = (i0 : Int) := by rw [show (i : Int) - 1 = (i0 : Int) by omega]; exact IntWalk.i64_in _ ⟨by omega, by omega⟩
  rw [hN] at c0
  have HN := hid (And.intro hN (And.intro hi hi1))
  have HI0 := hid hi0
  clear h hN hi hi1 hNl
  go_enter Tryz.func82, Tryz.ntmps82
  go_wp2_with fail
  refine (rout_next H0.out (by have := HN.out.2; first | (simp; done) | (simp; omega) | omega) hl ht (by omega) (hF _)).mono ?_
  rintro e w1 ⟨rfl, V1, G1, h1, k1, v1⟩
  have H1 := hid h1
  have P1 := hid (And.intro k1 v1)
  clear h1 k1 v1
  go_wp2_with fail
  refine (rjoin_mid H1.out (by have := HN.out.2; first | (simp; done) | (simp; omega) | omega) (by have := hl; first | (simp at this ⊢; done) | (simp at this ⊢; omega)) (by omega) (by omega) (by omega) (by omega)).mono ?_
  rintro e w2 ⟨rfl, V2, G2, h2, k2, v2⟩
  have d0 := h2.b
  obtain ⟨ao2, cap2, rfl⟩ := h2.row.slice
  obtain ⟨N2, hN2⟩ : ∃ N2, ((A ++ [(q, s, false)]) ++ (a, z + t, f) :: r).length = N2 := ⟨_, rfl⟩
  have hN2l := hN2
  simp at hN2l
  have j3b : (i0 : Int) < N2 := by omega
  obtain ⟨gpb, hgpb, -, -, cpb, -, -, -⟩ := h2.row.at (k := i0) (by omega) (show ((A ++ [(q, s, false)]) ++ (a, z + t, f) :: r)[i0]! = (q, s, false) by
    have := mid_at A ((a, z + t, f) :: r) (q, s, false)
    rw [hi0] at this
    simpa using this)
  subst hgpb
  rw [hN2] at d0
  have H2 := hid h2
  have P2 := hid (And.intro k2 v2)
  clear h2 k2 v2 hN2 hN2l hi0
  go_wp2_with fail
  refine (rput_mid H2.out (by have := HN.out.2; first | (simp; done) | (simp; omega) | omega) (by have := hl; first | (simp at this ⊢; done) | (simp at this ⊢; omega)) (by omega) (by omega) (Nat.le_trans (rm_len _ _ _ _) (hF _))).mono ?_
  rintro e w5 ⟨rfl, hR⟩
  have HR := hid (Rg.past P1.out.1 P1.out.2 (Rg.past P2.out.1 P2.out.2 hR))
  clear hR
  go_wp2
  try rw [Exit.noGoto_normal]
  refine bodyPost_end (results_none rfl _ _ _) rfl ?_
  exact ⟨rfl, HR.out⟩
set_option maxRecDepth 100000 in
set_option maxHeartbeats 1000000 in
theorem rfree_22 (w : World) (hb : Nat) (V mv : Value) (G : Nat → Value) (A r : List Bl) (F : Nat → List Int) (a z b t q s : Int) (f : Bool) (i : Nat) (h : Rh w hb V G mv ((A ++ [(q, s, true)]) ++ (a, z, f) :: ((b, t, true) :: r)) F) (hi : i = (A ++ [(q, s, true)]).length) (hl : ((A ++ [(q, s, true)]) ++ (a, z, f) :: ((b, t, true) :: r)).length ≤ 100000) (hz : 16 ≤ z) (ht : 16 ≤ t) (hs : 16 ≤ s) (hm : s + z + t < 65536) (hF : ∀ c, (F c).length ≤ 10000) :
    Calls Tryz.prog 82 #[.pointer (some ⟨hb, 0, none⟩), .int .i64 i] w fun e w' => e = .returned (.tuple #[]) ∧ Rg w w' hb V G mv (A ++ (q, s + (z + t), true) :: r) (adF (rmF (rmF F (kl t) b) (kl s) q) (kl (s + (z + t))) q) := by
  have H0 := hid h
  have c0 := h.b
  obtain ⟨ao, cap, rfl⟩ := h.row.slice
  obtain ⟨N, hN⟩ : ∃ N, ((A ++ [(q, s, true)]) ++ (a, z, f) :: ((b, t, true) :: r)).length = N := ⟨_, rfl⟩
  obtain ⟨i1, hi1⟩ : ∃ i1, i + 1 = i1 := ⟨_, rfl⟩
  have hNl := hN
  simp at hNl hi
  have hw1 : IntKind.i64.wrap ((i : Int) + 1) = (i1 : Int) := by rw [← hi1]; exact IntWalk.i64_in _ ⟨by omega, by omega⟩
  have j1 : (i1 : Int) < N := by omega
  obtain ⟨g, hg, -, -, c1, -, -, -⟩ := h.row.at (k := i1) (by omega) (show ((A ++ [(q, s, true)]) ++ (a, z, f) :: ((b, t, true) :: r))[i1]! = (b, t, true) by
    have := mid_next (A ++ [(q, s, true)]) r (a, z, f) (b, t, true)
    rw [show (A ++ [(q, s, true)]).length + 1 = i1 by simp; omega] at this
    exact this)
  subst hg
  obtain ⟨i0, hi0⟩ : ∃ i0 : Nat, A.length = i0 := ⟨_, rfl⟩
  have j2 : (0 : Int) < (i : Int) := by omega
  have hw0 : IntKind.i64.wrap ((i : Int) - 1) = (i0 : Int) := by rw [show (i : Int) - 1 = (i0 : Int) by omega]; exact IntWalk.i64_in _ ⟨by omega, by omega⟩
  rw [hN] at c0
  have HN := hid (And.intro hN (And.intro hi hi1))
  have HI0 := hid hi0
  clear h hN hi hi1 hNl
  go_enter Tryz.func82, Tryz.ntmps82
  go_wp2_with fail
  refine (rout_next H0.out (by have := HN.out.2; first | (simp; done) | (simp; omega) | omega) hl ht (by omega) (hF _)).mono ?_
  rintro e w1 ⟨rfl, V1, G1, h1, k1, v1⟩
  have H1 := hid h1
  have P1 := hid (And.intro k1 v1)
  clear h1 k1 v1
  go_wp2_with fail
  refine (rjoin_mid H1.out (by have := HN.out.2; first | (simp; done) | (simp; omega) | omega) (by have := hl; first | (simp at this ⊢; done) | (simp at this ⊢; omega)) (by omega) (by omega) (by omega) (by omega)).mono ?_
  rintro e w2 ⟨rfl, V2, G2, h2, k2, v2⟩
  have d0 := h2.b
  obtain ⟨ao2, cap2, rfl⟩ := h2.row.slice
  obtain ⟨N2, hN2⟩ : ∃ N2, ((A ++ [(q, s, true)]) ++ (a, z + t, f) :: r).length = N2 := ⟨_, rfl⟩
  have hN2l := hN2
  simp at hN2l
  have j3b : (i0 : Int) < N2 := by omega
  obtain ⟨gpb, hgpb, -, -, cpb, -, -, -⟩ := h2.row.at (k := i0) (by omega) (show ((A ++ [(q, s, true)]) ++ (a, z + t, f) :: r)[i0]! = (q, s, true) by
    have := mid_at A ((a, z + t, f) :: r) (q, s, true)
    rw [hi0] at this
    simpa using this)
  subst hgpb
  rw [hN2] at d0
  have H2 := hid h2
  have P2 := hid (And.intro k2 v2)
  clear h2 k2 v2 hN2 hN2l hi0
  go_wp2_with fail
  refine (rout_mid (A := A) (a := q) (z := s) (f := true) (r := (a, (z + t), f) :: r) (F := (rmF F (kl t) b)) (by have := H2.out; simpa using this) HI0.out.symm (by have := hl; first | (simp at this ⊢; done) | (simp at this ⊢; omega)) hs (by omega) (Nat.le_trans (rm_len _ _ _ _) (hF _))).mono ?_
  rintro e w3 ⟨rfl, V3, G3, h3, k3, v3⟩
  have H3 := hid h3
  have P3 := hid (And.intro k3 v3)
  clear h3 k3 v3
  go_wp2_with fail
  refine (rjoin_mid H3.out HI0.out.symm (by have := hl; first | (simp at this ⊢; done) | (simp at this ⊢; omega)) (by omega) (by omega) (by omega) (by omega)).mono ?_
  rintro e w4 ⟨rfl, V4, G4, h4, k4, v4⟩
  have H4 := hid h4
  have P4 := hid (And.intro k4 v4)
  clear h4 k4 v4
  go_wp2_with fail
  refine (rput_mid H4.out HI0.out.symm (by have := hl; first | (simp at this ⊢; done) | (simp at this ⊢; omega)) (by omega) (by omega) (Nat.le_trans (rm_len _ _ _ _) (Nat.le_trans (rm_len _ _ _ _) (hF _)))).mono ?_
  rintro e w5 ⟨rfl, hR⟩
  have HR := hid (Rg.past P1.out.1 P1.out.2 (Rg.past P2.out.1 P2.out.2 (Rg.past P3.out.1 P3.out.2 (Rg.past P4.out.1 P4.out.2 hR))))
  clear hR
  go_wp2
  try rw [Exit.noGoto_normal]
  refine bodyPost_end (results_none rfl _ _ _) rfl ?_
  exact ⟨rfl, HR.out⟩
def szs (l : List Bl) : Int := (l.map (·.2.1)).sum
theorem szs_app (l m : List Bl) : szs (l ++ m) = szs l + szs m := by simp [szs]
theorem szs_cons (x : Bl) (m : List Bl) : szs (x :: m) = x.2.1 + szs m := by simp [szs]
theorem szs_nn : ∀ (l : List Bl), (∀ x ∈ l, 16 ≤ x.2.1) → 0 ≤ szs l
  | [], _ => by simp [szs]
  | x :: r, h => by
    have := szs_nn r fun y hy => h y (by simp [hy])
    have := h x (by simp)
    rw [szs_cons]; omega
/-- free, whole. -/
theorem rfree_any (w : World) (hb : Nat) (V mv : Value) (G : Nat → Value) (A r : List Bl) (F : Nat → List Int) (a z : Int) (f : Bool) (i : Nat) (h : Rh w hb V G mv (A ++ (a, z, f) :: r) F) (hi : i = A.length) (hl : (A ++ (a, z, f) :: r).length ≤ 100000) (h16 : ∀ x ∈ A ++ (a, z, f) :: r, 16 ≤ x.2.1) (hm : szs (A ++ (a, z, f) :: r) + 32 < 65536) (hF : ∀ c, (F c).length ≤ 10000) :
    Calls Tryz.prog 82 #[.pointer (some ⟨hb, 0, none⟩), .int .i64 i] w fun e w' => e = .returned (.tuple #[]) ∧ Rg w w' hb V G mv (freedX A a z r F).1 (freedX A a z r F).2 := by
  have hz : 16 ≤ z := h16 (a, z, f) (by simp)
  have hrn : 0 ≤ szs r := szs_nn r fun y hy => h16 y (by simp [hy])
  have hAn : 0 ≤ szs A := szs_nn A fun y hy => h16 y (by simp [hy])
  rw [szs_app, szs_cons] at hm
  simp only at hm
  rcases List.eq_nil_or_concat A with rfl | ⟨A', ⟨q, s, g⟩, rfl⟩
  · match r with
    | [] => simpa [freedX, behX] using rfree_00 w hb V mv G [] [] F a z 16 16 16 16 f i h hi hl hz (by omega) (by omega) (by omega) hF
    | (b, t, false) :: r' =>
      have ht : 16 ≤ t := h16 (b, t, false) (by simp)
      have hn : 0 ≤ szs r' := szs_nn r' fun y hy => h16 y (by simp [hy])
      rw [szs_cons] at hm
      simp only at hm
      simpa [freedX, behX] using rfree_10 w hb V mv G [] r' F a z b t 16 16 f i h hi hl hz ht (by omega) (by omega) hF
    | (b, t, true) :: r' =>
      have ht : 16 ≤ t := h16 (b, t, true) (by simp)
      have hn : 0 ≤ szs r' := szs_nn r' fun y hy => h16 y (by simp [hy])
      rw [szs_cons] at hm
      simp only at hm
      simpa [freedX, behX] using rfree_20 w hb V mv G [] r' F a z b t 16 16 f i h hi hl hz ht (by omega) (by omega) hF
  · rw [List.concat_eq_append] at *
    have hs : 16 ≤ s := h16 (q, s, g) (by simp)
    have hAn' : 0 ≤ szs A' := szs_nn A' fun y hy => h16 y (by simp [hy])
    rw [szs_app, szs_cons, show szs [] = 0 from rfl] at hm
    simp only at hm
    cases g with
    | false =>
      match r with
      | [] => simpa [freedX, behX] using rfree_01 w hb V mv G A' [] F a z 16 16 q s f i h hi hl hz (by omega) hs (by omega) hF
      | (b, t, false) :: r' =>
        have ht : 16 ≤ t := h16 (b, t, false) (by simp)
        have hn : 0 ≤ szs r' := szs_nn r' fun y hy => h16 y (by simp [hy])
        rw [szs_cons] at hm
        simp only at hm
        simpa [freedX, behX] using rfree_11 w hb V mv G A' r' F a z b t q s f i h hi hl hz ht hs (by omega) hF
      | (b, t, true) :: r' =>
        have ht : 16 ≤ t := h16 (b, t, true) (by simp)
        have hn : 0 ≤ szs r' := szs_nn r' fun y hy => h16 y (by simp [hy])
        rw [szs_cons] at hm
        simp only at hm
        simpa [freedX, behX] using rfree_21 w hb V mv G A' r' F a z b t q s f i h hi hl hz ht hs (by omega) hF
    | true =>
      match r with
      | [] => simpa [freedX, behX] using rfree_02 w hb V mv G A' [] F a z 16 16 q s f i h hi hl hz (by omega) hs (by omega) hF
      | (b, t, false) :: r' =>
        have ht : 16 ≤ t := h16 (b, t, false) (by simp)
        have hn : 0 ≤ szs r' := szs_nn r' fun y hy => h16 y (by simp [hy])
        rw [szs_cons] at hm
        simp only at hm
        simpa [freedX, behX] using rfree_12 w hb V mv G A' r' F a z b t q s f i h hi hl hz ht hs (by omega) hF
      | (b, t, true) :: r' =>
        have ht : 16 ≤ t := h16 (b, t, true) (by simp)
        have hn : 0 ≤ szs r' := szs_nn r' fun y hy => h16 y (by simp [hy])
        rw [szs_cons] at hm
        simp only at hm
        simpa [freedX, behX] using rfree_22 w hb V mv G A' r' F a z b t q s f i h hi hl hz ht hs (by omega) hF
end Go.Proofs.YtgefmnnkpffpcaaGreatDoor
