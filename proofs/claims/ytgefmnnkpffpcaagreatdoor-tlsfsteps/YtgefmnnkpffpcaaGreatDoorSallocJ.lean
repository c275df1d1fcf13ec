/- Alloc and Aligned, both sides. -/
import Derived.Test.YtgefmnnkpffpcaaGreatDoorRgetJ
import Derived.Test.YtgefmnnkpffpcaaGreatDoorRallocJ
import Derived.Test.YtgefmnnkpffpcaaGreatDoorRalig
namespace Go.Proofs.YtgefmnnkpffpcaaGreatDoor
open Go.RowKit Go.Maps

theorem inq_mid {A r : Pcs} {b t o : Int} (h : inQ (A ++ (b, t) :: r) o) : (b ≤ o ∧ o < b - 8 + t) ∨ inQ (A ++ r) o := by
  obtain ⟨p, hp, h1, h2⟩ := h
  simp only [List.mem_append, List.mem_cons] at hp
  rcases hp with q | rfl | q
  · exact .inr ⟨p, by simp [q], h1, h2⟩
  · exact .inl ⟨h1, h2⟩
  · exact .inr ⟨p, by simp [q], h1, h2⟩
theorem inq_more {A r : Pcs} {b t o : Int} (h : inQ (A ++ r) o) : inQ (A ++ (b, t) :: r) o := by
  obtain ⟨p, hp, h1, h2⟩ := h
  refine ⟨p, ?_, h1, h2⟩
  simp only [List.mem_append, List.mem_cons] at hp ⊢
  rcases hp with q | q
  · exact .inl q
  · exact .inr (.inr q)
theorem pieces_free {A r : List Bl} {a z : Int} : piecesOf (A ++ (a, z, true) :: r) = piecesOf A ++ piecesOf r := by rw [pieces_app]; rfl
theorem pieces_taken {A r : List Bl} {a z : Int} : piecesOf (A ++ (a, z, false) :: r) = piecesOf A ++ (a + 8, z) :: piecesOf r := by rw [pieces_app]; rfl
section
variable {n : Nat} {g : Mem} {L : List Bl} {F : Nat → List Int} {f : Nat → Nat}
theorem tw_alloc (h : Hs n g L F) (ha : Ag f g (piecesOf L) (fun _ => False)) (m : Int) : Tw n g L F f 18 34 (fun p => #[p, .int .i64 m]) 0 := by
  cases hm : mayB m with
  | false => exact Tw.none h ha (er := 2) (by omega) (by omega) (fun w hb rb mb pb c hH _ => (alloc_no w hb rb mb pb n g c _ m hH hm).mono fun e w' q => ⟨q.1, Went.same hH q.2 (by omega)⟩) (fun w xb V G eb _ => rAlloc_arg hm)
  | true =>
    obtain ⟨n1, n2, n3, n4⟩ := needed_bd hm
    have n8 := (needed_range n1 n2).2.2
    have hPl : (piecesOf L).length < maxLen := by have := h.pl; unfold maxLen; omega
    rcases hs_alloc h n3 n8 (fun a s g' e => (find_some n3 (by omega) e).2.2.2.2.2) with ⟨e, hF⟩ | ⟨A, a, s, r, g', hlow, hle, h24, ⟨l, hF⟩, hL, hns, e, hH', hk⟩
    · refine Tw.none h ha (er := 5) (by omega) (by omega) (fun w hb rb mb pb c hH hc => ?_) (fun w xb V G eb hh => rAlloc_none hh hm (fun c hc _ => hF c hc))
      have q := alloc_any w hb rb mb pb n g c _ m hH (by omega) n1 n2 hPl
      rw [e] at q
      exact q.mono fun e w' q => ⟨q.1, q.2.more (by simp) (by omega)⟩
    · have hmem : (a, s, true) ∈ L := by rw [hL]; simp
      have hb := h.bd hmem
      simp only at hb
      obtain ⟨L', hL'⟩ : ∃ L', (giveR A a s (needed m) r (rmF F (kl s) a)).1 = L' := ⟨_, rfl⟩
      obtain ⟨F', hF'⟩ : ∃ F', (giveR A a s (needed m) r (rmF F (kl s) a)).2 = F' := ⟨_, rfl⟩
      obtain ⟨t, ht⟩ : ∃ t, (if 16 ≤ s - needed m then needed m else s) = t := ⟨_, rfl⟩
      have hpp : piecesOf L' = piecesOf A ++ (a + 8, t) :: piecesOf r := by rw [← hL', pieces_give, ht]
      have hpl : piecesOf L = piecesOf A ++ piecesOf r := by rw [hL, pieces_free]
      rw [hL', hF'] at hH'
      rw [hL'] at e
      refine ⟨a + 8, 0, g', L', F', f, hH', by omega, by omega, by omega, by omega, .inl ⟨rfl, t, ?_, ?_⟩, ?_, ?_⟩
      · obtain ⟨b, hb, e2⟩ := mem_pieces.1 (show (a + 8, t) ∈ piecesOf L' by rw [hpp]; simp)
        have : b = a + 8 - 8 := by simp only at e2; omega
        rw [← this]
        exact hb
      · refine ag_of ha fun o hq hx => ?_
        rw [hpp] at hq
        rcases inq_mid hq with q | q
        · exact absurd ⟨by omega, q.2⟩ hx
        · rw [← hpl] at q
          exact ⟨q, fun q => q, rfl, by have := hk o q; simpa using this⟩
      · intro w hb rb mb pb c hH hc
        have q := alloc_any w hb rb mb pb n g c _ m hH (by omega) n1 n2 hPl
        rw [e] at q
        exact q.mono fun e w' q => ⟨q.1, q.2.more (by simp) (by omega)⟩
      · intro w xb eb V G hh hM
        have hh' := hh
        rw [hL] at hh'
        have hl := h.len
        subst hL
        have hu := h.uniq
        have q := rAlloc_some w xb V (mslice eb n) G A r F m a s l hh' (by omega) hm hlow (by omega) (by omega) hle hF (fun c => by have := h.fl c; omega) hu (by omega) (by omega)
        rw [hL', hF'] at q
        exact q.mono fun e w' q => ⟨q.1, Rm.of hh hM q.2⟩
theorem pieces_from {A r : List Bl} {a z b s : Int} : piecesOf (fromR A a z b s r F).1 = piecesOf A ++ (b + 8, if 16 ≤ a + z - b - s then s else a + z - b) :: piecesOf r := by
  unfold fromR
  rw [pieces_give, pieces_app]
  show (piecesOf A ++ []) ++ _ = _
  simp
/-- Aligned: what is found, and what it leaves. -/
theorem hs_aligned (h : Hs n g L F) {mul m : Int} (hmul : isMul mul = true) (h1 : 16 ≤ needed m) (h1' : needed m ≤ 65552) (h2 : needed m % 8 = 0) :
    (aligned n g (piecesOf L) mul m = none ∧ ∀ c, (clsFor (needed m + mul + 16)).toNat ≤ c → F c = []) ∨
    ∃ A a s r l g' L' F' t, (∀ d, (clsFor (needed m + mul + 16)).toNat ≤ d → d < kl s → F d = []) ∧ (clsFor (needed m + mul + 16)).toNat ≤ kl s ∧ kl s < 24 ∧ F (kl s) = a :: l ∧ L = A ++ (a, s, true) :: r ∧ alignedFrom a mul + needed m ≤ a + s ∧
      aligned n g (piecesOf L) mul m = some (alignedFrom a mul + 8, g', piecesOf L') ∧ Hs n g' L' F' ∧ (∀ o, inQ (piecesOf L) o → g' o.toNat = g o.toNat) ∧ piecesOf L' = piecesOf A ++ (alignedFrom a mul + 8, t) :: piecesOf r ∧
      ((alignedFrom a mul = a ∧ (L', F') = giveR A a s (needed m) r (rmF F (kl s) a)) ∨ (16 ≤ alignedFrom a mul - a ∧ (L', F') = fromR A a s (alignedFrom a mul) (needed m) r (rmF F (kl s) a))) := by
  obtain ⟨k, hk3, hk12, hmk⟩ := mul_pow hmul
  have hmb : 8 ≤ mul ∧ mul ≤ 4096 := by
    unfold isMul at hmul
    simp only [Bool.and_eq_true, decide_eq_true_eq] at hmul
    exact hmul.1
  rcases rep_findX h.rep (needed m + mul + 16) with ⟨e, hF⟩ | ⟨c, a, s, l, hc, hle, hlow, hF, hk, hm, hf, hR⟩
  · left
    refine ⟨by unfold aligned; rw [e], fun c hc => ?_⟩
    by_cases h24 : c < 24
    · exact hF c hc h24
    · exact h.lo c (by omega)
  · right
    have fs := find_some (by omega) (by omega) hf
    obtain ⟨A, r, hL⟩ := List.append_of_mem hm
    subst hk
    have hh := nf_head (hL ▸ h.nf)
    have ma := h.rep.blk hm
    have hn := h.rep.nn
    simp only at ma
    have fa := aligned_facts (a := a) hmk hk3 fs.2.1
    by_cases hlt : a < alignedFrom a mul
    · have hs := hs_from h hL h1 h2 (b := alignedFrom a mul) (s := needed m) (by omega) (by omega) (by omega)
      refine ⟨A, a, s, r, l, _, (fromR A a s (alignedFrom a mul) (needed m) r (rmF F (kl s) a)).1, (fromR A a s (alignedFrom a mul) (needed m) r (rmF F (kl s) a)).2, _, hlow, hle, hc, hF, hL, by omega, ?_, hs.1, hs.2.2, pieces_from, .inr ⟨by omega, rfl⟩⟩
      unfold aligned
      rw [hf]
      simp only
      rw [if_pos hlt, ← hs.2.1]
    · have ea : alignedFrom a mul = a := by omega
      have hR2 := hR
      rw [hL] at hR2
      have q := rep_givenX hR2 h1 h2
      rw [give_ref hh] at q
      change Rep _ _ (giveR A a s (needed m) r (rmF F (kl s) a)).1 (giveR A a s (needed m) r (rmF F (kl s) a)).2 _ ∧ _ at q
      refine ⟨A, a, s, r, l, _, (giveR A a s (needed m) r (rmF F (kl s) a)).1, (giveR A a s (needed m) r (rmF F (kl s) a)).2, _, hlow, hle, hc, hF, hL, by omega, ?_, ⟨q.1, nf_give (nf_left (hL ▸ h.nf)) (nf_tail (nf_right (hL ▸ h.nf))) hh, ?_⟩, fun o ho => ?_, by rw [ea]; exact pieces_give, .inl ⟨ea, rfl⟩⟩
      · unfold aligned
        rw [hf]
        simp only
        rw [if_neg hlt, ea, pieces_give, ← q.2, hL]
      · unfold giveR
        split
        · exact lo_ad (lo_rm h.lo _ _) (kl_lt (by omega) (by omega)) _
        · exact lo_rm h.lo _ _
      · rw [give_keep hR2 h1 h2 (by rw [← hL]; exact ho)]
        exact out_keep h.rep hm (fun q => q) ho
theorem tw_aligned (h : Hs n g L F) (ha : Ag f g (piecesOf L) (fun _ => False)) (mul m : Int) (hm0 : -9223372036854775808 ≤ mul) : Tw n g L F f 19 37 (fun p => #[p, .int .i64 mul, .int .i64 m]) 0 := by
  cases hm : (isMul mul && mayB m) with
  | false => exact Tw.none h ha (er := 2) (by omega) (by omega) (fun w hb rb mb pb c hH _ => (aligned_no w hb rb mb pb n g c _ mul m hH hm0 hm).mono fun e w' q => ⟨q.1, Went.same hH q.2 (by omega)⟩) (fun w xb V G eb _ => rAl_arg w xb mul m hm)
  | true =>
    obtain ⟨hmul, hmy⟩ : isMul mul = true ∧ mayB m = true := by simpa using hm
    obtain ⟨n1, n2, n3, n4⟩ := needed_bd hmy
    have n8 := (needed_range n1 n2).2.2
    obtain ⟨k0, hk3, hk12, hmk⟩ := mul_pow hmul
    have hPl : (piecesOf L).length < maxLen := by have := h.pl; unfold maxLen; omega
    rcases hs_aligned h hmul n3 n4 n8 with ⟨e, hF⟩ | ⟨A, a, s, r, l, g', L', F', t, hlow, hle, h24, hF, hL, hns, e, hH', hk, hpp, hway⟩
    · refine Tw.none h ha (er := 5) (by omega) (by omega) (fun w hb rb mb pb c hH hc => ?_) (fun w xb V G eb hh => rAl_none w xb V _ G L F mul m hh hmul hmy (fun c hc _ => hF c hc))
      have q := aligned_any w hb rb mb pb n g c _ mul m hH (by omega) hmul n1 n2 hPl
      rw [e] at q
      exact q.mono fun e w' q => ⟨q.1, q.2.more (by simp) (by omega)⟩
    · have hmem : (a, s, true) ∈ L := by rw [hL]; simp
      have hb := h.bd hmem
      simp only at hb
      have fa := aligned_facts (a := a) hmk hk3 hb.2.2.2.2.1
      have hpl : piecesOf L = piecesOf A ++ piecesOf r := by rw [hL, pieces_free]
      refine ⟨alignedFrom a mul + 8, 0, g', L', F', f, hH', by omega, by omega, by omega, by omega, .inl ⟨rfl, t, ?_, ?_⟩, ?_, ?_⟩
      · obtain ⟨b, hb, e2⟩ := mem_pieces.1 (show (alignedFrom a mul + 8, t) ∈ piecesOf L' by rw [hpp]; simp)
        have : b = alignedFrom a mul + 8 - 8 := by simp only at e2; omega
        rw [← this]
        exact hb
      · refine ag_of ha fun o hq hx => ?_
        rw [hpp] at hq
        rcases inq_mid hq with q | q
        · exact absurd ⟨by omega, q.2⟩ hx
        · rw [← hpl] at q
          exact ⟨q, fun q => q, rfl, by have := hk o q; simpa using this⟩
      · intro w hb rb mb pb c hH hc
        have q := aligned_any w hb rb mb pb n g c _ mul m hH (by omega) hmul n1 n2 hPl
        rw [e] at q
        exact q.mono fun e w' q => ⟨q.1, q.2.more (by simp) (by omega)⟩
      · intro w xb eb V G hh hM
        have hh' := hh
        rw [hL] at hh'
        have hl := h.len
        subst hL
        have hu := h.uniq
        rcases hway with ⟨ea, hq⟩ | ⟨ea, hq⟩
        · have q := rAl_here w xb V (mslice eb n) G A r F mul m a s l k0 hh' (by omega) hmk hk3 hmul hmy hlow (by omega) (by omega) hle hF (fun c => by have := h.fl c; omega) hu (by omega) (by omega) (by omega) hns ea
          rw [← hq] at q
          rw [ea]
          exact q.mono fun e w' q => ⟨q.1, Rm.of hh hM q.2⟩
        · have q := rAl_from w xb V (mslice eb n) G A r F mul m a s l k0 hh' (by omega) hmk hk3 hmul hmy hlow (by omega) (by omega) hle hF (fun c => by have := h.fl c; omega) hu (by omega) (by omega) (by omega) hns ea
          rw [← hq] at q
          exact q.mono fun e w' q => ⟨q.1, Rm.of hh hM q.2⟩
end
end Go.Proofs.YtgefmnnkpffpcaaGreatDoor

/- The reference: Realloc, where it refuses and where the block has room. -/
namespace Go.Proofs.YtgefmnnkpffpcaaGreatDoor
open Go.RowKit Go.Maps

section
variable {w : World} {hb : Nat} {V mv : Value} {G : Nat → Value} {B : List Bl} {F : Nat → List Int} {o n : Int}
set_option maxRecDepth 100000 in
theorem rReal_arg (hm : mayB n = false) : Calls Tryz.prog 40 #[.pointer (some ⟨hb, 0, none⟩), .int .i64 o, .int .i64 n] w fun e w' => e = .returned (.tuple #[.int .i64 0, .int .i64 2]) ∧ w' = w := by
  have HM := hid (rmay_any w n)
  rw [hm] at HM
  clear hm
  go_enter Tryz.func40, Tryz.ntmps40
  go_wp2_with fail
  refine HM.out.mono ?_
  rintro e w1 ⟨rfl, rfl⟩
  go_wp2
  go_ret2
  exact ⟨rfl, rfl⟩
set_option maxRecDepth 100000 in
theorem rReal_none (h : Rh w hb V G mv B F) (hm : mayB n = true) (hl : B.length ≤ 100000) (ho2 : o < 9223372036854775808) (hn : ∀ j, j < B.length → B[j]!.1 = o - 8 → B[j]!.2.2 = true) : Calls Tryz.prog 40 #[.pointer (some ⟨hb, 0, none⟩), .int .i64 o, .int .i64 n] w fun e w' => e = .returned (.tuple #[.int .i64 0, .int .i64 6]) ∧ w' = w := by
  have HM := hid (rmay_any w n)
  rw [hm] at HM
  have HP := hid (rpiece_no h hl ho2 hn)
  clear hm h hl hn
  go_enter Tryz.func40, Tryz.ntmps40
  go_wp2_with fail
  refine HM.out.mono ?_
  rintro e w1 ⟨rfl, rfl⟩
  go_wp2_with fail
  refine HP.out.mono ?_
  rintro e w1 ⟨rfl, rfl⟩
  go_wp2
  go_ret2
  exact ⟨rfl, rfl⟩
end
/-- The block has room: the rest, if there is one, is freed. -/
def shrinkR (A : List Bl) (a z s : Int) (r : List Bl) (F : Nat → List Int) : List Bl × (Nat → List Int) :=
  if 16 ≤ z - s then freedX (A ++ [(a, s, false)]) (a + s) (z - s) r F else (A ++ (a, z, false) :: r, F)
set_option maxRecDepth 100000 in
set_option maxHeartbeats 1000000 in
theorem rReal_room (w : World) (hb : Nat) (V mv : Value) (G : Nat → Value) (A r : List Bl) (F : Nat → List Int) (n a z : Int) (h : Rh w hb V G mv (A ++ (a, z, false) :: r) F) (hl : (A ++ (a, z, false) :: r).length ≤ 10000) (h16 : ∀ x ∈ A ++ (a, z, false) :: r, 16 ≤ x.2.1) (hs : szs (A ++ (a, z, false) :: r) + 32 < 65536) (hm : mayB n = true) (hF : ∀ c, (F c).length ≤ 10000) (ha : 0 ≤ a) (ha2 : a ≤ 1000000) (hu : ∀ j, j < (A ++ (a, z, false) :: r).length → (A ++ (a, z, false) :: r)[j]!.1 = a → j = A.length) (hz : needed n ≤ z) :
    Calls Tryz.prog 40 #[.pointer (some ⟨hb, 0, none⟩), .int .i64 (a + 8), .int .i64 n] w fun e w' => e = .returned (.tuple #[.int .i64 (a + 8), .int .i64 0]) ∧ Rg w w' hb V G mv (shrinkR A a z (needed n) r F).1 (shrinkR A a z (needed n) r F).2 := by
  obtain ⟨n1, n2, n3, n4⟩ := needed_bd hm
  have HM := hid (rmay_any w n)
  rw [hm] at HM
  have HN := hid (rneed_any w n n1 n2)
  have e8 : a + 8 - 8 = a := by omega
  have HP := hid (rpiece_yes (o := a + 8) (z := z) (i := A.length) h (by omega) (by omega) (by omega) (by simp) (by rw [e8]; exact mid_at _ _ _) (by rw [e8]; exact hu))
  have hz16 : 16 ≤ z := h16 (a, z, false) (by simp)
  have hzb : z < 65536 := by
    have q1 := szs_nn A fun y hy => h16 y (by simp [hy])
    have q2 := szs_nn r fun y hy => h16 y (by simp [hy])
    rw [szs_app, szs_cons] at hs
    simp only at hs
    omega
  obtain ⟨i, hi⟩ : ∃ i, A.length = i := ⟨_, rfl⟩
  have hil : i < 10000 := by simp at hl; omega
  have cc := h.b
  obtain ⟨ao, cap, rfl⟩ := h.row.slice
  obtain ⟨g, hg, c1, c2, -, -, -, -⟩ := h.row.at (k := i) (by simp; omega) (show (A ++ (a, z, false) :: r)[i]! = (a, z, false) by rw [← hi]; exact mid_at _ _ _)
  subst hg
  obtain ⟨N, hN⟩ : ∃ N, (A ++ (a, z, false) :: r).length = N := ⟨_, rfl⟩
  have hiN : (i : Int) < N := by rw [← hN]; simp; omega
  rw [hN] at cc
  rw [hi] at HP
  obtain ⟨i1, hi1⟩ : ∃ i1, i + 1 = i1 := ⟨_, rfl⟩
  have hw1 : IntKind.i64.wrap ((i : Int) + 1) = (i1 : Int) := by rw [← hi1]; exact IntWalk.i64_in _ ⟨by omega, by omega⟩
  have H := hid h
  have HI := hid (And.intro hi hi1)
  have HA := hid (And.intro hl (And.intro h16 (And.intro hs hF)))
  unfold shrinkR
  obtain ⟨m, hmn⟩ : ∃ m, needed n = m := ⟨_, rfl⟩
  rw [hmn] at n3 n4 HN hz ⊢
  have hz2 : ¬ z < m := by omega
  have hzd : decide (z < m) = false := decide_eq_false hz2
  clear h hl h16 hs hm hF hu e8 hi hi1 hN hmn
  by_cases hr : 16 ≤ z - m
  · have HS := hid (fun (w2 : World) (k : Kp w w2 []) => rsplit_mid (z := m) (H.out.same k) HI.out.1.symm (by have := HA.out.1; omega) ha ha2 (by omega) (by omega) (by omega) (by omega) hr)
    go_enter Tryz.func40, Tryz.ntmps40
    go_wp2_with fail
    refine HM.out.mono ?_
    rintro e w1 ⟨rfl, rfl⟩
    go_wp2_with fail
    refine HP.out.mono ?_
    rintro e w1 ⟨rfl, rfl⟩
    go_wp2_with fail
    refine HN.out.mono ?_
    rintro e w1 ⟨rfl, rfl⟩
    go_wp2_with fail
    go_quiet (fail)
    go_wp2_with fail
    have KQ := hid (kp_drewN w1 nq [])
    refine (HS.out _ KQ.out).mono ?_
    rintro e w2 ⟨rfl, V2, G2, h2, k2, v2⟩
    have H2 := hid h2
    have P2 := hid (And.intro k2 v2)
    clear h2 k2 v2
    go_wp2_with fail
    refine (rfree_any w2 hb V2 mv G2 (A ++ [(a, m, false)]) r F (a + m) (z - m) false i1 (by have := H2.out; simpa using this) (by have := HI.out; simp; omega) (by have := HA.out.1; simp at this ⊢; omega) ?_ ?_ HA.out.2.2.2).mono ?_
    · intro x hx
      simp at hx
      rcases hx with q | rfl | rfl | q
      · exact HA.out.2.1 x (by simp [q])
      · exact n3
      · exact hr
      · exact HA.out.2.1 x (by simp [q])
    · have := HA.out.2.2.1
      simp only [szs_app, szs_cons, show szs [] = 0 from rfl] at this ⊢
      omega
    rintro e w3 ⟨rfl, hR⟩
    have HR := hid (Rg.past (V := (.slice (some ⟨g, 0, none⟩) (A ++ (a, z, false) :: r).length cap)) KQ.out.nil Nw.refl (Rg.past P2.out.1 P2.out.2 hR))
    clear hR
    go_wp2
    go_ret2
    exact ⟨rfl, HR.out⟩
  · have HS := hid (fun (w2 : World) (k : Kp w w2 []) => rsplit_no w2 hb _ mv G _ F i a z m false (H.out.same k) (by have := HA.out.1; omega) (by have := HI.out.1; simp; omega) (by rw [← HI.out.1]; exact mid_at _ _ _) (by omega) (by omega) (by omega) (by omega) (by omega))
    have HR := hid (fun (w2 : World) (k : Kp w w2 []) => Rg.past (V := (.slice (some ⟨g, 0, none⟩) (A ++ (a, z, false) :: r).length cap)) k.nil Nw.refl (Rg.refl (H.out.same k)))
    go_enter Tryz.func40, Tryz.ntmps40
    go_wp2_with fail
    refine HM.out.mono ?_
    rintro e w1 ⟨rfl, rfl⟩
    go_wp2_with fail
    refine HP.out.mono ?_
    rintro e w1 ⟨rfl, rfl⟩
    go_wp2_with fail
    refine HN.out.mono ?_
    rintro e w1 ⟨rfl, rfl⟩
    go_wp2_with fail
    go_quiet (fail)
    go_wp2_with fail
    have KQ := hid (kp_drewN w1 nq [])
    refine (HS.out _ KQ.out).mono ?_
    rintro e w2 ⟨rfl, rfl⟩
    go_wp2
    go_ret2
    exact ⟨rfl, HR.out _ KQ.out⟩
end Go.Proofs.YtgefmnnkpffpcaaGreatDoor
