/- Free and Realloc, both sides. -/
import Derived.Test.YtgefmnnkpffpcaaGreatDoorSwordsJ
import Derived.Test.YtgefmnnkpffpcaaGreatDoorHcheck3J
import Derived.OrdersHeld
namespace Go.Proofs.YtgefmnnkpffpcaaGreatDoor
open Go.RowKit Go.Maps

section
variable {n : Nat} {g : Mem} {L : List Bl} {F : Nat → List Int} {f : Nat → Nat}
theorem tw_free (h : Hs n g L F) (ha : Ag f g (piecesOf L) (fun _ => False)) (o : Int) (h0 : -9223372036854775808 ≤ o) (h1 : o ≤ 9223372036854775807) :
    ∃ (er : Int) (g' : Mem) (L' : List Bl) (F' : Nat → List Int), Hs n g' L' F' ∧ Ag f g' (piecesOf L') (fun _ => False) ∧
    (∀ w hb rb mb pb c, Hp w hb rb mb pb n g c (piecesOf L) → c ≤ 1000000000000000 → Calls Tryz.prog 21 #[.pointer (some ⟨hb, 0, none⟩), .int .i64 o] w fun e w' => e = .returned (.int .i64 er) ∧ Went w w' hb rb mb pb n g' (piecesOf L') c 100 [rb, mb, pb]) ∧
    (∀ w xb eb V G, Rh w xb V G (mslice eb n) L F → Mb w eb n f → Calls Tryz.prog 38 #[.pointer (some ⟨xb, 0, none⟩), .int .i64 o] w fun e w' => e = .returned (.int .i64 er) ∧ Rm w w' xb eb n V G L' F' f) := by
  have hl := h.len
  cases hp : hasP (piecesOf L) o with
  | false =>
    refine ⟨6, g, L, F, h, ha, fun w hb rb mb pb c hH _ => (hfree_no w hb rb mb pb n g c _ o hH h0 h1 hp).mono fun e w' q => ⟨q.1, Went.same hH q.2 (by omega)⟩, fun w xb eb V G hh hM => (rFree_no hh (by omega) (by omega) (no_piece hp)).mono fun e w' q => ⟨q.1, by rw [q.2]; exact Rm.same hh hM (Kp.refl _ _)⟩⟩
  | true =>
    obtain ⟨A, z, r, hL, hz, hmem⟩ := is_piece h hp
    obtain ⟨a, rfl⟩ : ∃ a, o = a + 8 := ⟨o - 8, by omega⟩
    have e8 : a + 8 - 8 = a := by omega
    rw [e8] at hL
    have hb := h.bd (x := (a, z, false)) (by rw [hL]; simp)
    simp only at hb
    subst hL
    have q := hs_free h
    refine ⟨0, _, _, _, q.1, ?_, fun w hb' rb mb pb c hH hc => ?_, fun w xb eb V G hh hM => ?_⟩
    · refine ag_of ha fun x hq _ => ?_
      rw [pieces_freedX] at hq
      refine ⟨by rw [pieces_taken]; exact inq_more hq, fun q => q, rfl, ?_⟩
      have := q.2 x hq
      simpa using this
    · have w1 := hfree_ok w hb' rb mb pb n g c _ (a + 8) z hH (by omega) (by omega) hp hz (by omega) (by omega) (by rw [e8]; omega)
      rw [e8] at w1
      have hd : delP (piecesOf (A ++ (a, z, false) :: r)) (a + 8) = piecesOf (freedX A a z r F).1 := by rw [pieces_del h.rep.ct, pieces_free, pieces_freedX]
      refine w1.mono fun e w' q => ⟨q.1, ?_⟩
      have := q.2.more (k' := 100) (by simp) (by omega)
      rw [← hd]
      exact this
    · exact (rFree_yes w xb V _ G A r F a z hh (by omega) h.h16 h.szs (fun c => by have := h.fl c; omega) (by omega) (by omega) h.uniq).mono fun e w' q => ⟨q.1, Rm.of hh hM q.2⟩
theorem hs_own {A r : List Bl} {a z s : Int} (h : Hs n g (A ++ (a, z, false) :: r) F) (h1 : 16 ≤ s) (h2 : s % 8 = 0) {o : Int} (o1 : a + 8 ≤ o) (o2 : o < a + z) (o3 : o < a + if 16 ≤ (growX z s r F).1 - s then s else (growX z s r F).1) :
    (give n (grownP n g (piecesOf (A ++ (a, z, false) :: r)) a z s).1 (piecesOf (A ++ (a, z, false) :: r)) a (growX z s r F).1 s).1 o.toNat = g o.toNat := by
  obtain ⟨e1, e2, e3, e4⟩ := rep_grownX s h.rep
  rw [give_del, ← e3, give_own e2 h1 h2 o1 o3]
  exact e4 o ⟨(a + 8, z), by rw [pieces_taken]; simp, o1, by show o < a + 8 - 8 + z; omega⟩
theorem grown_still {P : Pcs} {a z s : Int} (h : (grownP n g P a z s).2 = z) : grownP n g P a z s = (g, z) := by
  unfold grownP at h ⊢
  split
  · rfl
  · rename_i hs
    rw [if_neg hs] at h
    split
    · rename_i t ht
      rw [ht] at h
      simp only at h
      split
      · rfl
      · rename_i hlt
        rw [if_neg hlt] at h
        simp only at h
        exfalso
        unfold freeAt at ht
        split at ht
        · cases ht
        · rename_i hno
          simp only [Bool.or_eq_true, not_or, Bool.not_eq_true, Bool.not_eq_false'] at hno
          have hm := hno.2
          unfold mayBe at hm
          simp only [decide_eq_true_eq] at hm
          simp only [Option.some.injEq] at ht
          omega
    · rfl
/-- Realloc within the block, or with the one behind it. -/
theorem tw_inplace {A r : List Bl} {a z m : Int} (h : Hs n g (A ++ (a, z, false) :: r) F) (ha : Ag f g (piecesOf (A ++ (a, z, false) :: r)) (fun _ => False)) (hm : mayB m = true) (h3 : needed m ≤ (growX z (needed m) r F).1) : Tw n g (A ++ (a, z, false) :: r) F f 26 40 (fun p => #[p, .int .i64 (a + 8), .int .i64 m]) (z - 8) := by
  obtain ⟨n1, n2, n3, n4⟩ := needed_bd hm
  have n8 := (needed_range n1 n2).2.2
  have hl := h.len
  have hb := h.bd (x := (a, z, false)) (by simp)
  simp only at hb
  have e8 : a + 8 - 8 = a := by omega
  have hPl : (piecesOf (A ++ (a, z, false) :: r)).length < maxLen := by have := h.pl; unfold maxLen; omega
  have hp : hasP (piecesOf (A ++ (a, z, false) :: r)) (a + 8) = true := (hasP_pieces _ _).2 ⟨(a, z, false), by simp, rfl, rfl⟩
  have hz : getP (piecesOf (A ++ (a, z, false) :: r)) (a + 8) = z := by
    obtain ⟨A2, z2, r2, e1, e2, -⟩ := is_piece h hp
    rw [e2]
    have : (a, z2, false) ∈ A ++ (a, z, false) :: r := by rw [e1, e8]; simp
    have := contig_inj h.rep.ct this (show (a, z, false) ∈ A ++ (a, z, false) :: r by simp) rfl
    simpa using this
  have q := hs_realloc h n3 n8 h3
  obtain ⟨-, q2, q3⟩ := rep_reallocX h.rep n3 n8 h3
  have qo := fun (o : Int) (o1 : a + 8 ≤ o) (o2 : o < a + z) o3 => hs_own (o := o) h n3 n8 o1 o2 o3
  have qg := (rep_grownX (needed m) h.rep).1
  obtain ⟨z1, hz1⟩ : ∃ z1, (growX z (needed m) r F).1 = z1 := ⟨_, rfl⟩
  obtain ⟨r1, hr1⟩ : ∃ r1, (growX z (needed m) r F).2.1 = r1 := ⟨_, rfl⟩
  obtain ⟨F1, hF1⟩ : ∃ F1, (growX z (needed m) r F).2.2 = F1 := ⟨_, rfl⟩
  have hpr : piecesOf r1 = piecesOf r := by
    rw [← hr1]
    unfold growX
    split
    · rfl
    · cases r with
      | nil => rfl
      | cons y r' =>
        obtain ⟨b, t, fl⟩ := y
        cases fl with
        | false => rfl
        | true =>
          simp only
          split <;> rfl
  rw [hz1] at h3 qg
  rw [hz1, hr1, hF1] at q
  rw [hz1, hr1] at q2
  rw [hz1] at q3 qo
  obtain ⟨t, ht⟩ : ∃ t, (if 16 ≤ z1 - needed m then needed m else z1) = t := ⟨_, rfl⟩
  rw [ht] at q2 qo
  obtain ⟨g', hg'⟩ : ∃ g', (give n (grownP n g (piecesOf (A ++ (a, z, false) :: r)) a z (needed m)).1 (piecesOf (A ++ (a, z, false) :: r)) a z1 (needed m)).1 = g' := ⟨_, rfl⟩
  rw [hg'] at q q3 qo
  have hpp : piecesOf (giveX A a z1 (needed m) r1 F1).1 = piecesOf A ++ (a + 8, t) :: piecesOf r := by rw [pieces_giveX, ht, hpr]
  have hp2 : (give n (grownP n g (piecesOf (A ++ (a, z, false) :: r)) a z (needed m)).1 (piecesOf (A ++ (a, z, false) :: r)) a z1 (needed m)).2 = piecesOf (giveX A a z1 (needed m) r1 F1).1 := by rw [q2, hpp, hpr]
  have hz1n : a + z1 ≤ n ∧ z1 % 8 = 0 := by
    have e2 := (rep_grownX (needed m) h.rep).2.1
    rw [hz1, hr1, hF1] at e2
    have := e2.blk (x := (a, z1, true)) (by simp)
    simp only at this
    omega
  refine ⟨a + 8, 0, g', _, _, f, q, by omega, by omega, by omega, by omega, .inl ⟨rfl, t, ?_, ?_⟩, ?_, ?_⟩
  · obtain ⟨b, hb, e2⟩ := mem_pieces.1 (show (a + 8, t) ∈ piecesOf (giveX A a z1 (needed m) r1 F1).1 by rw [hpp]; simp)
    have : b = a + 8 - 8 := by simp only at e2; omega
    rw [← this]
    exact hb
  · refine ag_of ha fun o hq hx => ?_
    rw [hpp] at hq
    rcases inq_mid hq with q | q
    · have hoz : (o : Int) < a + z := by
        rcases Int.lt_or_le (o : Int) (a + z) with w | w
        · exact w
        · exact absurd ⟨by omega, q.2⟩ hx
      have := qo o q.1 hoz (by omega)
      exact ⟨by rw [pieces_taken]; exact ⟨(a + 8, z), by simp, q.1, by show (o : Int) < a + 8 - 8 + z; omega⟩, fun q => q, rfl, by simpa using this⟩
    · have := q3 o (.inl q)
      exact ⟨by rw [pieces_taken]; exact inq_more q, fun q => q, rfl, by simpa using this⟩
  · intro w hb' rb mb pb c hH hc
    by_cases hnz : needed m ≤ z
    · have eg : grownP n g (piecesOf (A ++ (a, z, false) :: r)) a z (needed m) = (g, z) := if_pos hnz
      have ez : z1 = z := by rw [← qg, eg]
      have w1 := realloc_in w hb' rb mb pb n g c _ (a + 8) m z hH (by omega) n1 n2 (by omega) hp hz (by omega) hnz (by rw [e8]; omega) hPl
      rw [e8] at w1
      rw [eg, ez] at hg' hp2
      rw [hg', hp2] at w1
      subst ez
      exact w1.mono fun e w' q => ⟨q.1, q.2.more (by simp) (by omega)⟩
    · have w1 := realloc_grow w hb' rb mb pb n g c _ (a + 8) m z z1 hH (by omega) n1 n2 (by omega) hp hz (by omega) (by omega) (by rw [e8]; omega) hPl (by rw [e8]; exact qg) (by omega) h3 (by rw [e8]; omega)
      rw [e8, hg', hp2] at w1
      exact w1.mono fun e w' q => ⟨q.1, q.2.more (by simp) (by omega)⟩
  · intro w xb eb V G hh hM
    by_cases hnz : needed m ≤ z
    · have eg : growX z (needed m) r F = (z, r, F) := if_pos hnz
      rw [eg] at hz1 hr1 hF1
      simp only at hz1 hr1 hF1
      subst hz1 hr1 hF1
      exact (rReal_room w xb V _ G A r F m a z hh (by omega) h.h16 h.szs hm (fun c => by have := h.fl c; omega) (by omega) (by omega) h.uniq hnz).mono fun e w' q => ⟨q.1, Rm.of hh hM q.2⟩
    · rcases r with _ | ⟨⟨b, t0, fl⟩, r'⟩
      · unfold growX at hz1
        rw [if_neg hnz] at hz1
        simp only at hz1
        omega
      cases fl with
      | false =>
        unfold growX at hz1
        rw [if_neg hnz] at hz1
        simp only at hz1
        omega
      | true =>
        unfold growX at hz1 hr1 hF1
        rw [if_neg hnz] at hz1 hr1 hF1
        simp only at hz1 hr1 hF1
        by_cases hlt : z + t0 < needed m
        · rw [if_pos hlt] at hz1
          simp only at hz1
          omega
        · rw [if_neg hlt] at hz1 hr1 hF1
          simp only at hz1 hr1 hF1
          subst hz1 hr1 hF1
          unfold giveX
          by_cases hr : 16 ≤ z + t0 - needed m
          · rw [if_pos hr]
            exact (rReal_grow w xb V _ G A r' F m a z b t0 hh (by omega) h.h16 h.szs hm (fun c => by have := h.fl c; omega) (by omega) (by omega) h.uniq (by omega) (by omega) hr).mono fun e w' q => ⟨q.1, Rm.of hh hM q.2⟩
          · rw [if_neg hr]
            exact (rReal_grow0 w xb V _ G A r' F m a z b t0 hh (by omega) h.h16 h.szs hm (fun c => by have := h.fl c; omega) (by omega) (by omega) h.uniq (by omega) (by omega) hr).mono fun e w' q => ⟨q.1, Rm.of hh hM q.2⟩
end
end Go.Proofs.YtgefmnnkpffpcaaGreatDoor

/- Realloc elsewhere, both sides; Realloc whole. -/
namespace Go.Proofs.YtgefmnnkpffpcaaGreatDoor
open Go.RowKit Go.Maps

theorem tw_none2 {n : Nat} {g : Mem} {L : List Bl} {F : Nat → List Int} {f : Nat → Nat} {fp fr : Nat} {ar : Value → Array Value} {was er : Int} (h : Hs n g L F) (ha : Ag f g (piecesOf L) (fun _ => False)) (h0 : 0 < er) (h1 : er ≤ 10)
    (hp : ∀ w hb rb mb pb c, Hp w hb rb mb pb n g c (piecesOf L) → c ≤ 1000000000000000 → Calls Tryz.prog fp (ar (.pointer (some ⟨hb, 0, none⟩))) w fun e w' => e = .returned (.tuple #[.int .i64 0, .int .i64 er]) ∧ Went w w' hb rb mb pb n g (piecesOf L) c 100 [rb, mb, pb])
    (hr : ∀ w xb V G eb, Rh w xb V G (mslice eb n) L F → Calls Tryz.prog fr (ar (.pointer (some ⟨xb, 0, none⟩))) w fun e w' => e = .returned (.tuple #[.int .i64 0, .int .i64 er]) ∧ Kp w w' []) : Tw n g L F f fp fr ar was :=
  ⟨0, er, g, L, F, f, h, by omega, by omega, by omega, by omega, .inr ⟨by omega, ha⟩, hp, fun w xb eb V G hh hM => (hr w xb V G eb hh).mono fun _ _ q => ⟨q.1, Rm.same hh hM q.2⟩⟩
section
variable {n : Nat} {g : Mem} {L : List Bl} {F : Nat → List Int} {f : Nat → Nat}
theorem Hs.has {A r : List Bl} {a z : Int} (h : Hs n g (A ++ (a, z, false) :: r) F) : hasP (piecesOf (A ++ (a, z, false) :: r)) (a + 8) = true ∧ getP (piecesOf (A ++ (a, z, false) :: r)) (a + 8) = z := by
  have hp : hasP (piecesOf (A ++ (a, z, false) :: r)) (a + 8) = true := (hasP_pieces _ _).2 ⟨(a, z, false), by simp, rfl, rfl⟩
  refine ⟨hp, ?_⟩
  obtain ⟨A2, z2, r2, e1, e2, -⟩ := is_piece h hp
  rw [e2]
  have : (a, z2, false) ∈ A ++ (a, z, false) :: r := by rw [e1, show a + 8 - 8 = a by omega]; simp
  have := contig_inj h.rep.ct this (show (a, z, false) ∈ A ++ (a, z, false) :: r by simp) rfl
  simpa using this
theorem tw_elsewhere {A r : List Bl} {a z m : Int} (h : Hs n g L F) (hLa : L = A ++ (a, z, false) :: r) (ha : Ag f g (piecesOf L) (fun _ => False)) (hm : mayB m = true) (hz : z < needed m) (hx : NoB z (needed m) r) (hg : growX z (needed m) r F = (z, r, F)) : Tw n g L F f 26 40 (fun p => #[p, .int .i64 (a + 8), .int .i64 m]) (z - 8) := by
  obtain ⟨n1, n2, n3, n4⟩ := needed_bd hm
  have n8 := (needed_range n1 n2).2.2
  have hl := h.len
  have hb := h.bd (x := (a, z, false)) (by rw [hLa]; simp)
  simp only at hb
  have e8 : a + 8 - 8 = a := by omega
  have hPl : (piecesOf L).length < maxLen := by have := h.pl; unfold maxLen; omega
  have hh := (hLa ▸ h).has
  rw [← hLa] at hh
  have hgz : grownP n g (piecesOf L) (a + 8 - 8) z (needed m) = (g, z) := by
    rw [e8]
    refine grown_still ?_
    have := (rep_grownX (needed m) (hLa ▸ h).rep).1
    rw [← hLa, hg] at this
    exact this
  rcases hs_alloc h n3 n8 (fun a s g' e => (find_some n3 (by omega) e).2.2.2.2.2) with ⟨e, hF⟩ | ⟨A', b, s, r', g1, hlow, hle, h24, ⟨l, hF⟩, hL, hns, e, hH1, hk⟩
  · refine tw_none2 h ha (er := 5) (by omega) (by omega) (fun w hb' rb mb pb c hH hc => ?_) (fun w xb V G eb hR => ?_)
    · have q := realloc_full w hb' rb mb pb n g c _ (a + 8) m z hH (by omega) n1 n2 (by omega) hh.1 hh.2 (by omega) (by omega) hz (by rw [e8]; omega) hPl hgz e
      exact q.mono fun e w' q => ⟨q.1, q.2.more (by simp) (by omega)⟩
    · subst hLa
      exact rReal_full w xb V _ G A r F m a z hR (by omega) h.h16 h.szs hm (by omega) (by omega) h.uniq hz hx (fun c hc _ => hF c hc)
  · have hb2 := h.bd (x := (b, s, true)) (by rw [hL]; simp)
    simp only at hb2
    have hmemA : (a, z, false) ∈ L := by rw [hLa]; simp
    have hmemB : (b, s, true) ∈ L := by rw [hL]; simp
    have hab : a + z ≤ b ∨ b + s ≤ a := by
      rcases contig_apart h.rep.ct hmemA hmemB with q | q | q
      · simp at q
      · exact .inl q
      · exact .inr q
    obtain ⟨L1, hL1⟩ : ∃ L1, (giveR A' b s (needed m) r' (rmF F (kl s) b)).1 = L1 := ⟨_, rfl⟩
    obtain ⟨F1, hF1⟩ : ∃ F1, (giveR A' b s (needed m) r' (rmF F (kl s) b)).2 = F1 := ⟨_, rfl⟩
    have hm1 : (a, z, false) ∈ L1 := by rw [← hL1]; exact give_mem (by rw [← hL]; exact hmemA) rfl
    obtain ⟨A1, r1, hA1⟩ := List.append_of_mem hm1
    obtain ⟨D, hD⟩ : ∃ D : Nat, (b + 8).toNat = D := ⟨_, rfl⟩
    obtain ⟨S, hS⟩ : ∃ S : Nat, (a + 8).toNat = S := ⟨_, rfl⟩
    obtain ⟨K, hK⟩ : ∃ K : Nat, (z - 8).toNat = K := ⟨_, rfl⟩
    obtain ⟨t, ht⟩ : ∃ t, (if 16 ≤ s - needed m then needed m else s) = t := ⟨_, rfl⟩
    have hpp1 : piecesOf L1 = piecesOf A' ++ (b + 8, t) :: piecesOf r' := by rw [← hL1, pieces_give, ht]
    have hpl : piecesOf L = piecesOf A' ++ piecesOf r' := by rw [hL, pieces_free]
    have htm : needed m ≤ t := by rw [← ht]; split <;> omega
    have hv := hs_move hH1 (hL1.trans hA1) S (k := K) hns (by omega)
    rw [hL1, hD, hF1] at hv
    rw [hL1, hF1] at hH1
    rw [hL1] at e
    have hh1 := (hA1 ▸ hH1).has
    rw [← hA1] at hh1
    have hd : delP (piecesOf L1) (a + 8) = piecesOf (freedX A1 a z r1 F1).1 := by rw [hA1, pieces_del (hA1 ▸ hH1).rep.ct, pieces_free, pieces_freedX]
    have hpt : (b + 8, t) ∈ piecesOf (freedX A1 a z r1 F1).1 := by
      have q : (b + 8, t) ∈ piecesOf L1 := by rw [hpp1]; simp
      rw [hA1, pieces_taken] at q
      rw [pieces_freedX]
      simp only [List.mem_append, List.mem_cons] at q ⊢
      rcases q with q | q | q
      · exact .inl q
      · simp only [Prod.mk.injEq] at q; omega
      · exact .inr q
    refine ⟨b + 8, 0, _, _, _, cpF f D S K, hv.1, by omega, by omega, by omega, by omega, .inl ⟨rfl, t, ?_, ?_⟩, ?_, ?_⟩
    · obtain ⟨x, hx, e2⟩ := mem_pieces.1 hpt
      have : x = b + 8 - 8 := by simp only at e2; omega
      rw [← this]
      exact hx
    · intro o h4 hq hX
      rw [pieces_freedX] at hq
      have hg2 := hv.2 o hq
      simp only [Int.toNat_natCast] at hg2
      rw [hg2]
      by_cases hin : D ≤ o ∧ o < D + K
      · rw [upW_cp_in (by omega) (by omega) h4 hin.1 hin.2]
        unfold cpW
        rw [if_pos hin]
        have ho : inQ (piecesOf L) ((o - D + S : Nat) : Int) := ⟨(a + 8, z), by rw [hLa, pieces_taken]; simp, by show a + 8 ≤ ((o - D + S : Nat) : Int); omega, by show ((o - D + S : Nat) : Int) < a + 8 - 8 + z; omega⟩
        have h1 := hk _ ho
        simp only [Int.toNat_natCast] at h1
        rw [h1]
        exact ha _ (by omega) ho (fun q => q)
      · rw [upW_cp_out (by omega) h4 hin]
        unfold cpW
        rw [if_neg hin]
        have ho : inQ (piecesOf L) (o : Int) := by
          have q : inQ (piecesOf L1) (o : Int) := by rw [hA1, pieces_taken]; exact inq_more hq
          rw [hpp1] at q
          rcases inq_mid q with q | q
          · exact absurd ⟨by omega, by omega⟩ hX
          · rw [hpl]; exact q
        have h1 := hk _ ho
        simp only [Int.toNat_natCast] at h1
        rw [h1]
        exact ha _ h4 ho (fun q => q)
    · intro w hb' rb mb pb c hH hc
      have q := realloc_move w hb' rb mb pb n g c _ (a + 8) m z hH (by omega) n1 n2 (by omega) hh.1 hh.2 (by omega) (by omega) hz (by rw [e8]; omega) hPl hgz e (by omega) (by omega) (by omega) (by omega) hh1.1 hh1.2
      rw [hD, hS, hK, e8] at q
      rw [← hd]
      exact q.mono fun e w' q => ⟨q.1, q.2.more (by simp) (by omega)⟩
    · intro w xb eb V G hR hM
      have hR' := hR
      rw [hLa] at hR'
      have hl1 := hH1.len
      rw [hA1] at hl1
      have hl0 := hl
      rw [hLa] at hl0
      have q := rReal_move w xb eb n V G A r A' r' A1 r1 F f m a z b s l D S hR' hM (by omega) (hLa ▸ h.h16) (hLa ▸ h.szs) hm (by omega) (by omega) (hLa ▸ h).uniq hz hx (hLa.symm.trans hL) hlow (by omega) (by omega) hle hF (fun c => by have := h.fl c; omega) (hL ▸ h).uniq (by omega) (by omega)
        (hL1.trans hA1) (by omega) (hA1 ▸ hH1.h16) (hA1 ▸ hH1.szs) (hA1 ▸ hH1).uniq (by rw [hF1]; exact fun c => by have := hH1.fl c; omega) (by omega) (by omega) (by omega) (by omega) (by omega) (by intro j hj; omega)
      rw [hF1, hK] at q
      exact q
theorem tw_realloc (h : Hs n g L F) (ha : Ag f g (piecesOf L) (fun _ => False)) (o m : Int) (h0 : -9223372036854775808 ≤ o) (h1 : o ≤ 9223372036854775807) : Tw n g L F f 26 40 (fun p => #[p, .int .i64 o, .int .i64 m]) (if hasP (piecesOf L) o then getP (piecesOf L) o - 8 else 0) := by
  cases hm : mayB m with
  | false => exact Tw.none h ha (er := 2) (by omega) (by omega) (fun w hb rb mb pb c hH _ => (realloc_no w hb rb mb pb n g c _ o m hH hm).mono fun e w' q => ⟨q.1, Went.same hH q.2 (by omega)⟩) (fun w xb V G eb _ => rReal_arg hm)
  | true =>
    have hl := h.len
    cases hp : hasP (piecesOf L) o with
    | false => exact Tw.none h ha (er := 6) (by omega) (by omega) (fun w hb rb mb pb c hH _ => (realloc_none w hb rb mb pb n g c _ o m hH hm h0 h1 hp).mono fun e w' q => ⟨q.1, Went.same hH q.2 (by omega)⟩) (fun w xb V G eb hR => rReal_none hR hm (by omega) (by omega) (no_piece hp))
    | true =>
      rw [if_pos rfl]
      obtain ⟨A, z, r, hL, hz, hmem⟩ := is_piece h hp
      obtain ⟨a, rfl⟩ : ∃ a, o = a + 8 := ⟨o - 8, by omega⟩
      rw [show a + 8 - 8 = a by omega] at hL
      rw [hz]
      by_cases h3 : needed m ≤ (growX z (needed m) r F).1
      · subst hL
        exact tw_inplace h ha hm h3
      · have hzn : ¬ needed m ≤ z := fun q => h3 (by unfold growX; rw [if_pos q]; exact q)
        have hh : NoB z (needed m) r ∧ growX z (needed m) r F = (z, r, F) := by
          unfold growX at h3 ⊢
          rw [if_neg hzn] at h3 ⊢
          unfold NoB
          rcases r with _ | ⟨⟨b, t, fl⟩, r'⟩
          · exact ⟨.inl rfl, rfl⟩
          · cases fl with
            | false => exact ⟨.inr (.inl ⟨b, t, r', rfl⟩), rfl⟩
            | true =>
              simp only at h3 ⊢
              by_cases hlt : z + t < needed m
              · rw [if_pos hlt]
                exact ⟨.inr (.inr ⟨b, t, r', rfl, hlt⟩), rfl⟩
              · rw [if_neg hlt] at h3
                simp only at h3
                omega
        exact tw_elsewhere h hL ha hm (by omega) hh.1 hh.2
end
end Go.Proofs.YtgefmnnkpffpcaaGreatDoor

/- A region that draws, in a round of a loop: what holds of it outside a round holds in one. -/
namespace Go.Proofs.YtgefmnnkpffpcaaGreatDoor

theorem oper_round {P : Program} {o : Oper} {a : Act} {w : World} {K K' : Act → World → Prop} {Q : Exit → Act → World → Prop} (l n : Nat) (hd : ∀ c, o.op ≠ .defer c) (h : ∀ a w, K a w → K' a w)
    (hh : o.wp P a w K Q) : o.wpIn (Fence.wide.inRound l) n P a w K' Q := by
  refine ⟨fun _ _ => trivial, ?_⟩
  have e : o.semAt (Fence.wide.inRound l).round a.eval = execOp a.eval o := Oper.semAt_some l _ o hd
  rw [e]
  unfold Oper.wp at hh
  generalize (execOp a.eval o).run P w = r at *
  cases r with
  | ok x w' =>
    cases x <;> simp only [Oper.upon, Oper.uponIn] at hh ⊢ <;>
      first
        | exact h _ _ hh
        | exact ⟨(fun hs => by cases hs), ((callsIn_wide (n := n - 1)).2 (Calls.mono hh (fun e w'' he => by cases e <;> first | exact h _ _ he | exact he))).inRound l⟩
        | exact ⟨(fun hs => by cases hs), fun c cs _ => let ⟨v, w2, r, s⟩ := hh c cs; ⟨v, w2, h _ _ r, stepsIn_wide.2 s⟩⟩
  | halt x w' => cases x <;> simp only [Oper.upon, Oper.uponIn] at hh ⊢ <;> exact hh

theorem any_round {P : Program} {md : Region.Mode} {ops : Array Oper} {Q : Exit → Act → World → Prop} (l n : Nat) (hd : ∀ (i : Nat) (o : Oper), ops[i]? = some o → ∀ c, o.op ≠ .defer c) (hq : ¬ LetsOut Q) :
    ∀ (fuel : Nat) (listed : Array Bool) (a : Act) (w : World), wpAny P md ops Q fuel listed a w → wpAnyIn (Fence.wide.inRound l) n P md ops Q fuel listed a w
  | 0, _, _, _, h => h
  | fuel + 1, listed, a, w, h => by
    refine ⟨h.1, fun i hi => ?_⟩
    have hh := h.2 i hi
    unfold wpOp at hh
    unfold wpOpIn
    split
    · rename_i ho
      simp only [ho] at hh
      exact any_round l n hd hq fuel _ _ _ hh
    · rename_i o ho
      simp only [ho] at hh
      split
      · rename_i hw
        simp only [hw, if_true] at hh
        rcases hh with hh | ⟨-, hh⟩
        · exact oper_round l n (hd i o ho) (any_round l n hd hq fuel _) hh
        · exact absurd hh hq
      · rename_i hw
        simp only [hw] at hh
        exact ⟨fun _ _ => trivial, any_round l n hd hq fuel _ _ _ hh⟩

theorem region_round {P : Program} {ops : Array Oper} {Q : Exit → Act → World → Prop} {S : World → Prop} {id : Nat} {a : Act} {w : World} (l n : Nat) (hm : P.follows .mixedOrders = true) (hd : ∀ (i : Nat) (o : Oper), ops[i]? = some o → ∀ c, o.op ≠ .defer c) (hq : ¬ LetsOut Q)
    (h : wpAnyH P .any ops Q S ops.size (Array.replicate ops.size false) a w.drew) : (Code.region id ops true).wpIn (Fence.wide.inRound l) n P Q a w :=
  wpIn_region_any hm (any_round l n hd hq _ _ _ _ (wpAny_of_held _ _ _ _ h))
end Go.Proofs.YtgefmnnkpffpcaaGreatDoor
