/- Words and bytes; the pieces behind a call. No Go is walked here. -/
import Derived.Test.YtgefmnnkpffpcaaGreatDoorSallocJ
import Derived.Test.YtgefmnnkpffpcaaGreatDoorRmove
namespace Go.Proofs.YtgefmnnkpffpcaaGreatDoor

theorem upW_eq (f : Nat → Nat) (o : Nat) : upW f o 4 = ((f (o + 3) * 256 + f (o + 2)) * 256 + f (o + 1)) * 256 + f o := by
  show (((0 * 256 + f (o + (3 - 0))) * 256 + f (o + (3 - 1))) * 256 + f (o + (3 - 2))) * 256 + f (o + (3 - 3)) = _
  simp
theorem upW_congr {f f' : Nat → Nat} {o o' : Nat} (h : ∀ j, j < 4 → f' (o' + j) = f (o + j)) : upW f' o' 4 = upW f o 4 := by
  have h0 := h 0 (by omega); have h1 := h 1 (by omega); have h2 := h 2 (by omega); have h3 := h 3 (by omega)
  simp only [Nat.add_zero] at h0
  rw [upW_eq, upW_eq, h0, h1, h2, h3]
theorem setF_in (f : Nat → Nat) (o W j : Nat) (hj : j < 4) : setF f o W 4 (o + j) = W / 256 ^ j % 256 := by
  have : j = 0 ∨ j = 1 ∨ j = 2 ∨ j = 3 := by omega
  rcases this with rfl | rfl | rfl | rfl <;> simp [setF, putF]
theorem setF_out (f : Nat → Nat) (o W p : Nat) (h : p < o ∨ o + 4 ≤ p) : setF f o W 4 p = f p := by
  simp only [setF, putF]
  repeat rw [if_neg (by omega)]
theorem upW_set {f : Nat → Nat} {o W : Nat} (hW : W < 4294967296) : upW (setF f o W 4) o 4 = W := by
  rw [upW_eq, setF_in f o W 3 (by omega), setF_in f o W 2 (by omega), setF_in f o W 1 (by omega)]
  have := setF_in f o W 0 (by omega)
  simp only [Nat.add_zero] at this
  rw [this]
  simp only [Nat.pow_zero, Nat.div_one, show (256 : Nat) ^ 3 = 16777216 from rfl, show (256 : Nat) ^ 2 = 65536 from rfl, show (256 : Nat) ^ 1 = 256 from rfl]
  omega
theorem upW_off {f : Nat → Nat} {o p W : Nat} (h4 : o % 4 = 0) (p4 : p % 4 = 0) (h : p ≠ o) : upW (setF f o W 4) p 4 = upW f p 4 :=
  upW_congr fun j hj => setF_out f o W (p + j) (by omega)
theorem upW_cp_in {f : Nat → Nat} {d s k o : Nat} (hd : d % 4 = 0) (hk : k % 4 = 0) (ho : o % 4 = 0) (h1 : d ≤ o) (h2 : o < d + k) : upW (cpF f d s k) o 4 = upW f (o - d + s) 4 :=
  upW_congr fun j hj => by
    unfold cpF
    rw [if_pos (by omega), show o + j - d + s = o - d + s + j by omega]
theorem upW_cp_out {f : Nat → Nat} {d s k o : Nat} (hd : d % 4 = 0) (ho : o % 4 = 0) (h : ¬ (d ≤ o ∧ o < d + k)) : upW (cpF f d s k) o 4 = upW f o 4 :=
  upW_congr fun j hj => by
    unfold cpF
    rw [if_neg (by omega)]
theorem pieces_beh (z : Int) (r : List Bl) (F : Nat → List Int) : piecesOf (behX z r F).2.1 = piecesOf r := by
  unfold behX
  cases r with
  | nil => rfl
  | cons y r' =>
    obtain ⟨b, s, f⟩ := y
    cases f <;> rfl
theorem pieces_freedX {A r : List Bl} {a z : Int} {F : Nat → List Int} : piecesOf (freedX A a z r F).1 = piecesOf A ++ piecesOf r := by
  unfold freedX
  rcases List.eq_nil_or_concat A with rfl | ⟨A', x, hA'⟩
  · show piecesOf ([] ++ (a, (behX z r F).1, true) :: (behX z r F).2.1) = _
    rw [pieces_free, pieces_beh]
  · obtain ⟨p, s, f⟩ := x
    rw [List.concat_eq_append] at hA'
    subst hA'
    have hgl : (A' ++ [(p, s, f)]).getLast? = some (p, s, f) := by simp
    have hdl : (A' ++ [(p, s, f)]).dropLast = A' := by simp
    rw [hgl, hdl]
    cases f with
    | true =>
      show piecesOf (A' ++ (p, s + (behX z r F).1, true) :: (behX z r F).2.1) = _
      rw [pieces_free, pieces_beh, pieces_free (A := A') (r := []), show piecesOf [] = [] from rfl, List.append_nil]
    | false =>
      show piecesOf ((A' ++ [(p, s, false)]) ++ (a, (behX z r F).1, true) :: (behX z r F).2.1) = _
      rw [pieces_free, pieces_beh]
theorem pieces_giveX {A r : List Bl} {a z s : Int} {F : Nat → List Int} : piecesOf (giveX A a z s r F).1 = piecesOf A ++ (a + 8, if 16 ≤ z - s then s else z) :: piecesOf r := by
  unfold giveX
  split
  · rw [pieces_freedX, pieces_taken (A := A) (r := []), show piecesOf [] = [] from rfl]
    simp
  · rw [pieces_taken]
end Go.Proofs.YtgefmnnkpffpcaaGreatDoor

/- The reference: Realloc, where the block behind is taken. -/
namespace Go.Proofs.YtgefmnnkpffpcaaGreatDoor
open Go.RowKit Go.Maps

set_option maxRecDepth 100000 in
set_option maxHeartbeats 1000000 in
theorem rReal_grow (w : World) (hb : Nat) (V mv : Value) (G : Nat → Value) (A r : List Bl) (F : Nat → List Int) (n a z b t : Int) (h : Rh w hb V G mv (A ++ (a, z, false) :: (b, t, true) :: r) F) (hl : (A ++ (a, z, false) :: (b, t, true) :: r).length ≤ 10000) (h16 : ∀ x ∈ A ++ (a, z, false) :: (b, t, true) :: r, 16 ≤ x.2.1) (hs : szs (A ++ (a, z, false) :: (b, t, true) :: r) + 32 < 65536) (hm : mayB n = true) (hF : ∀ c, (F c).length ≤ 10000) (ha : 0 ≤ a) (ha2 : a ≤ 1000000) (hu : ∀ j, j < (A ++ (a, z, false) :: (b, t, true) :: r).length → (A ++ (a, z, false) :: (b, t, true) :: r)[j]!.1 = a → j = A.length) (hz : z < needed n) (hzt : needed n ≤ z + t) (hr : 16 ≤ z + t - needed n) :
    Calls Tryz.prog 40 #[.pointer (some ⟨hb, 0, none⟩), .int .i64 (a + 8), .int .i64 n] w fun e w' => e = .returned (.tuple #[.int .i64 (a + 8), .int .i64 0]) ∧ Rg w w' hb V G mv (freedX (A ++ [(a, needed n, false)]) (a + needed n) (z + t - needed n) r (rmF F (kl t) b)).1 (freedX (A ++ [(a, needed n, false)]) (a + needed n) (z + t - needed n) r (rmF F (kl t) b)).2 := by
  obtain ⟨n1, n2, n3, n4⟩ := needed_bd hm
  have HM := hid (rmay_any w n)
  rw [hm] at HM
  have HN := hid (rneed_any w n n1 n2)
  have e8 : a + 8 - 8 = a := by omega
  have HP := hid (rpiece_yes (o := a + 8) (z := z) (i := A.length) h (by omega) (by omega) (by omega) (by simp) (by rw [e8]; exact mid_at _ _ _) (by rw [e8]; exact hu))
  have hz16 : 16 ≤ z := h16 (a, z, false) (by simp)
  have ht16 : 16 ≤ t := h16 (b, t, true) (by simp)
  have hzb : z + t < 65536 := by
    have q1 := szs_nn A fun y hy => h16 y (by simp [hy])
    have q2 := szs_nn r fun y hy => h16 y (by simp [hy])
    rw [szs_app, szs_cons, szs_cons] at hs
    simp only at hs
    omega
  obtain ⟨i, hi⟩ : ∃ i, A.length = i := ⟨_, rfl⟩
  obtain ⟨i1, hi1⟩ : ∃ i1, i + 1 = i1 := ⟨_, rfl⟩
  have hil : i < 10000 := by simp at hl; omega
  have cc := h.b
  obtain ⟨ao, cap, rfl⟩ := h.row.slice
  obtain ⟨g, hg, c1, c2, -, -, -, -⟩ := h.row.at (k := i) (by simp; omega) (show (A ++ (a, z, false) :: (b, t, true) :: r)[i]! = (a, z, false) by rw [← hi]; exact mid_at _ _ _)
  subst hg
  obtain ⟨g', hg', -, d2, d3, -, -, -⟩ := h.row.at (k := i1) (by simp; omega) (show (A ++ (a, z, false) :: (b, t, true) :: r)[i1]! = (b, t, true) by rw [← hi1, ← hi]; exact mid_next _ _ _ _)
  cases hg'
  obtain ⟨N, hN⟩ : ∃ N, (A ++ (a, z, false) :: (b, t, true) :: r).length = N := ⟨_, rfl⟩
  have hiN : (i : Int) < N := by rw [← hN]; simp; omega
  have hi1N : (i1 : Int) < N := by rw [← hN]; simp; omega
  rw [hN] at cc
  rw [hi] at HP
  have hw1 : IntKind.i64.wrap ((i : Int) + 1) = (i1 : Int) := by rw [← hi1]; exact IntWalk.i64_in _ ⟨by omega, by omega⟩
  have hwz : IntKind.i64.wrap (z + t) = z + t := IntWalk.i64_in _ ⟨by omega, by omega⟩
  have H := hid h
  have HI := hid (And.intro hi hi1)
  have HA := hid (And.intro hl (And.intro h16 (And.intro hs hF)))
  obtain ⟨m, hmn⟩ : ∃ m, needed n = m := ⟨_, rfl⟩
  rw [hmn] at n3 n4 HN hz hzt hr ⊢
  have hzd : decide (z < m) = true := decide_eq_true hz
  have hid1 : decide ((i1 : Int) < N) = true := decide_eq_true hi1N
  have hztd : decide (m ≤ z + t) = true := decide_eq_true hzt
  clear h hl h16 hs hm hF hu e8 hi hi1 hN hmn
  go_enter Tryz.func40, Tryz.ntmps40
  go_wp2_with fail
  refine HM.out.mono ?_
  rintro e w1 ⟨rfl, rfl⟩
  go_wp2_with fail
  refine HP.out.mono ?_
  rintro e w1 ⟨rfl, rfl⟩
  go_wp2_with fail
  refine HN.out.mono ?_
  rintro e w1 ⟨rfl, rfl⟩
  go_wp2_with fail
  go_quiet (fail)
  go_wp2_with fail
  have KQ := hid (kp_drewN w1 nq [])
  refine (rout_next (H.out.same KQ.out) (by have := HI.out; omega) (by have := HA.out.1; omega) ht16 (by omega) (HA.out.2.2.2 _)).mono ?_
  rintro e w2 ⟨rfl, V2, G2, h2, k2, v2⟩
  have H2 := hid h2
  have P2 := hid (And.intro k2 v2)
  clear h2 k2 v2
  go_wp2_with fail
  refine (rjoin_mid H2.out HI.out.1.symm (by have := HA.out.1; simp at this ⊢; omega) (by omega) (by omega) (by omega) (by omega)).mono ?_
  rintro e w3 ⟨rfl, V3, G3, h3, k3, v3⟩
  have P3 := hid (And.intro k3 v3)
  have H3 := hid h3
  have cc3 := h3.b
  obtain ⟨ao3, cap3, rfl⟩ := h3.row.slice
  obtain ⟨g3, hg3, -, c32, -, -, -, -⟩ := h3.row.at (k := i) (by have := HI.out.1; simp; omega) (show (A ++ (a, z + t, false) :: r)[i]! = (a, z + t, false) by rw [← HI.out.1]; exact mid_at _ _ _)
  subst hg3
  obtain ⟨N3, hN3⟩ : ∃ N3, (A ++ (a, z + t, false) :: r).length = N3 := ⟨_, rfl⟩
  have hiN3 : (i : Int) < N3 := by have := HI.out.1; rw [← hN3]; simp; omega
  rw [hN3] at cc3
  clear h3 k3 v3 hN3
  go_wp2_with fail
  refine (rsplit_mid (z := m) H3.out HI.out.1.symm (by have := HA.out.1; simp at this ⊢; omega) ha ha2 (by omega) (by omega) (by omega) (by omega) hr).mono ?_
  rintro e w4 ⟨rfl, V4, G4, h4, k4, v4⟩
  have H4 := hid h4
  have P4 := hid (And.intro k4 v4)
  clear h4 k4 v4
  go_wp2_with fail
  refine (rfree_any w4 hb V4 mv G4 (A ++ [(a, m, false)]) r (rmF F (kl t) b) (a + m) (z + t - m) false i1 (by have := H4.out; simpa using this) (by have := HI.out; simp; omega) (by have := HA.out.1; simp at this ⊢; omega) ?_ ?_ (fun c => Nat.le_trans (rm_len _ _ _ _) (HA.out.2.2.2 c))).mono ?_
  · intro x hx
    simp at hx
    rcases hx with q | rfl | rfl | q
    · exact HA.out.2.1 x (by simp [q])
    · exact n3
    · exact hr
    · exact HA.out.2.1 x (by simp [q])
  · have := HA.out.2.2.1
    simp only [szs_app, szs_cons, show szs [] = 0 from rfl] at this ⊢
    omega
  rintro e w5 ⟨rfl, hR⟩
  have HR := hid (Rg.past (V := (.slice (some ⟨g, 0, none⟩) (A ++ (a, z, false) :: (b, t, true) :: r).length cap)) KQ.out.nil Nw.refl (Rg.past P2.out.1 P2.out.2 (Rg.past P3.out.1 P3.out.2 (Rg.past P4.out.1 P4.out.2 hR))))
  clear hR
  go_wp2
  go_ret2
  exact ⟨rfl, HR.out⟩
set_option maxRecDepth 100000 in
set_option maxHeartbeats 1000000 in
theorem rReal_grow0 (w : World) (hb : Nat) (V mv : Value) (G : Nat → Value) (A r : List Bl) (F : Nat → List Int) (n a z b t : Int) (h : Rh w hb V G mv (A ++ (a, z, false) :: (b, t, true) :: r) F) (hl : (A ++ (a, z, false) :: (b, t, true) :: r).length ≤ 10000) (h16 : ∀ x ∈ A ++ (a, z, false) :: (b, t, true) :: r, 16 ≤ x.2.1) (hs : szs (A ++ (a, z, false) :: (b, t, true) :: r) + 32 < 65536) (hm : mayB n = true) (hF : ∀ c, (F c).length ≤ 10000) (ha : 0 ≤ a) (ha2 : a ≤ 1000000) (hu : ∀ j, j < (A ++ (a, z, false) :: (b, t, true) :: r).length → (A ++ (a, z, false) :: (b, t, true) :: r)[j]!.1 = a → j = A.length) (hz : z < needed n) (hzt : needed n ≤ z + t) (hr : ¬ 16 ≤ z + t - needed n) :
    Calls Tryz.prog 40 #[.pointer (some ⟨hb, 0, none⟩), .int .i64 (a + 8), .int .i64 n] w fun e w' => e = .returned (.tuple #[.int .i64 (a + 8), .int .i64 0]) ∧ Rg w w' hb V G mv (A ++ (a, z + t, false) :: r, rmF F (kl t) b).1 (A ++ (a, z + t, false) :: r, rmF F (kl t) b).2 := by
  obtain ⟨n1, n2, n3, n4⟩ := needed_bd hm
  have HM := hid (rmay_any w n)
  rw [hm] at HM
  have HN := hid (rneed_any w n n1 n2)
  have e8 : a + 8 - 8 = a := by omega
  have HP := hid (rpiece_yes (o := a + 8) (z := z) (i := A.length) h (by omega) (by omega) (by omega) (by simp) (by rw [e8]; exact mid_at _ _ _) (by rw [e8]; exact hu))
  have hz16 : 16 ≤ z := h16 (a, z, false) (by simp)
  have ht16 : 16 ≤ t := h16 (b, t, true) (by simp)
  have hzb : z + t < 65536 := by
    have q1 := szs_nn A fun y hy => h16 y (by simp [hy])
    have q2 := szs_nn r fun y hy => h16 y (by simp [hy])
    rw [szs_app, szs_cons, szs_cons] at hs
    simp only at hs
    omega
  obtain ⟨i, hi⟩ : ∃ i, A.length = i := ⟨_, rfl⟩
  obtain ⟨i1, hi1⟩ : ∃ i1, i + 1 = i1 := ⟨_, rfl⟩
  have hil : i < 10000 := by simp at hl; omega
  have cc := h.b
  obtain ⟨ao, cap, rfl⟩ := h.row.slice
  obtain ⟨g, hg, c1, c2, -, -, -, -⟩ := h.row.at (k := i) (by simp; omega) (show (A ++ (a, z, false) :: (b, t, true) :: r)[i]! = (a, z, false) by rw [← hi]; exact mid_at _ _ _)
  subst hg
  obtain ⟨g', hg', -, d2, d3, -, -, -⟩ := h.row.at (k := i1) (by simp; omega) (show (A ++ (a, z, false) :: (b, t, true) :: r)[i1]! = (b, t, true) by rw [← hi1, ← hi]; exact mid_next _ _ _ _)
  cases hg'
  obtain ⟨N, hN⟩ : ∃ N, (A ++ (a, z, false) :: (b, t, true) :: r).length = N := ⟨_, rfl⟩
  have hiN : (i : Int) < N := by rw [← hN]; simp; omega
  have hi1N : (i1 : Int) < N := by rw [← hN]; simp; omega
  rw [hN] at cc
  rw [hi] at HP
  have hw1 : IntKind.i64.wrap ((i : Int) + 1) = (i1 : Int) := by rw [← hi1]; exact IntWalk.i64_in _ ⟨by omega, by omega⟩
  have hwz : IntKind.i64.wrap (z + t) = z + t := IntWalk.i64_in _ ⟨by omega, by omega⟩
  have H := hid h
  have HI := hid (And.intro hi hi1)
  have HA := hid (And.intro hl (And.intro h16 (And.intro hs hF)))
  obtain ⟨m, hmn⟩ : ∃ m, needed n = m := ⟨_, rfl⟩
  rw [hmn] at n3 n4 HN hz hzt hr
  have hzd : decide (z < m) = true := decide_eq_true hz
  have hid1 : decide ((i1 : Int) < N) = true := decide_eq_true hi1N
  have hztd : decide (m ≤ z + t) = true := decide_eq_true hzt
  clear h hl h16 hs hm hF hu e8 hi hi1 hN hmn
  go_enter Tryz.func40, Tryz.ntmps40
  go_wp2_with fail
  refine HM.out.mono ?_
  rintro e w1 ⟨rfl, rfl⟩
  go_wp2_with fail
  refine HP.out.mono ?_
  rintro e w1 ⟨rfl, rfl⟩
  go_wp2_with fail
  refine HN.out.mono ?_
  rintro e w1 ⟨rfl, rfl⟩
  go_wp2_with fail
  go_quiet (fail)
  go_wp2_with fail
  have KQ := hid (kp_drewN w1 nq [])
  refine (rout_next (H.out.same KQ.out) (by have := HI.out; omega) (by have := HA.out.1; omega) ht16 (by omega) (HA.out.2.2.2 _)).mono ?_
  rintro e w2 ⟨rfl, V2, G2, h2, k2, v2⟩
  have H2 := hid h2
  have P2 := hid (And.intro k2 v2)
  clear h2 k2 v2
  go_wp2_with fail
  refine (rjoin_mid H2.out HI.out.1.symm (by have := HA.out.1; simp at this ⊢; omega) (by omega) (by omega) (by omega) (by omega)).mono ?_
  rintro e w3 ⟨rfl, V3, G3, h3, k3, v3⟩
  have P3 := hid (And.intro k3 v3)
  have H3 := hid h3
  have cc3 := h3.b
  obtain ⟨ao3, cap3, rfl⟩ := h3.row.slice
  obtain ⟨g3, hg3, -, c32, -, -, -, -⟩ := h3.row.at (k := i) (by have := HI.out.1; simp; omega) (show (A ++ (a, z + t, false) :: r)[i]! = (a, z + t, false) by rw [← HI.out.1]; exact mid_at _ _ _)
  subst hg3
  obtain ⟨N3, hN3⟩ : ∃ N3, (A ++ (a, z + t, false) :: r).length = N3 := ⟨_, rfl⟩
  have hiN3 : (i : Int) < N3 := by have := HI.out.1; rw [← hN3]; simp; omega
  rw [hN3] at cc3
  clear h3 k3 v3 hN3
  go_wp2_with fail
  refine (rsplit_no w3 hb _ mv G3 _ _ i a (z + t) m false H3.out (by have := HA.out.1; simp at this ⊢; omega) (by have := HI.out.1; simp; omega) (by rw [← HI.out.1]; exact mid_at _ _ _) (by omega) (by omega) (by omega) (by omega) (by omega)).mono ?_
  rintro e w4 ⟨rfl, rfl⟩
  have HR := hid (Rg.past (V := (.slice (some ⟨g, 0, none⟩) (A ++ (a, z, false) :: (b, t, true) :: r).length cap)) KQ.out.nil Nw.refl (Rg.past P2.out.1 P2.out.2 (Rg.past P3.out.1 P3.out.2 (Rg.refl H3.out))))
  go_wp2
  go_ret2
  exact ⟨rfl, HR.out⟩
end Go.Proofs.YtgefmnnkpffpcaaGreatDoor
