/- Check, Left, Len and the blocks, of a heap between calls. -/
import Derived.Test.YtgefmnnkpffpcaaGreatDoorSrealJ
import Derived.Test.YtgefmnnkpffpcaaGreatDoorHcheck4
import Derived.Test.YtgefmnnkpffpcaaGreatDoorHlawb
import Derived.Test.YtgefmnnkpffpcaaGreatDoorHrepAllocJ
import Derived.Test.YtgefmnnkpffpcaaGreatDoorHcheck3J
import Derived.Test.YtgefmnnkpffpcaaGreatDoorRlookJ
import Derived.Test.YtgefmnnkpffpcaaGreatDoorHpieceJ
import Derived.Test.YtgefmnnkpffpcaaGreatDoorCnumsJ
namespace Go.Proofs.YtgefmnnkpffpcaaGreatDoor
open Go.RowKit Go.Maps

theorem lift_list {α : Type} {q : α → Prop} : ∀ (l : List α), (∀ x ∈ l, q x) → ∃ m : List { x : α // q x }, m.map (·.1) = l
  | [], _ => ⟨[], rfl⟩
  | x :: r, h => by
    obtain ⟨m, hm⟩ := lift_list r fun y hy => h y (by simp [hy])
    exact ⟨⟨x, h x (by simp)⟩ :: m, by simp [hm]⟩
theorem rd_has {n : Nat} {g : Mem} {o : Int} (h : hasW n o = true) : rd n g o = g o.toNat := by unfold rd; rw [if_pos h]
theorem hasW_of {n : Nat} {o : Int} (h0 : 0 ≤ o) (h4 : o % 4 = 0) (hn : o + 4 ≤ n) : hasW n o = true := by unfold hasW; exact decide_eq_true (by omega)
section
variable {w : World} {hb rb mb pb n : Nat} {g : Mem} {c : Int} {L : List Bl} {F : Nat → List Int}
theorem Hs.n120 (h : Hs n g L F) (hL : L ≠ []) : 128 ≤ n := by
  cases L with
  | nil => exact absurd rfl hL
  | cons x r =>
    have := h.bd (x := x) (by simp)
    omega
/-- The blocks' own words. -/
theorem Hs.qB (h : Hs n g L F) : ∀ x ∈ L, qB n g x := fun x hx => by
  have b := h.bd hx
  refine ⟨?_, by omega, by omega⟩
  rw [rd_has (hasW_of (by omega) (by omega) (by omega))]
  exact h.rep.sz x hx (fun q => q)
theorem ahead_of (h : Hs n g L F) {A r : List Bl} {x : Bl} (hL : L = A ++ x :: r) : rd n g (x.1 + 4) = lastAt A := by
  have b := h.bd (x := x) (by rw [hL]; simp)
  rw [rd_has (hasW_of (by omega) (by omega) (by omega))]
  rcases List.eq_nil_or_concat A with rfl | ⟨A', u, hA'⟩
  · have hx : x.1 = 112 := by
      have := h.rep.ct
      rw [hL] at this
      obtain ⟨a, z, f⟩ := x
      exact this.1
    rw [hx]
    exact h.rep.zz.2.2.2
  · rw [List.concat_eq_append] at hA'
    subst hA'
    rw [lastAt_snoc]
    have hc := h.rep.ct
    rw [hL, show A' ++ [u] ++ x :: r = A' ++ u :: x :: r by simp] at hc
    exact h.rep.ah u (by rw [hL]; simp) x (by rw [hL]; simp) (contig_next hc) (fun q => q)
theorem check_hs (h : Hs n g L F) (hH : Hp w hb rb mb pb n g c (piecesOf L)) (hn : 128 ≤ n) (hc : c ≤ 1000000000000000) :
    Calls Tryz.prog 31 #[.pointer (some ⟨hb, 0, none⟩)] w fun e w' => e = .returned (.bool true) ∧ Went w w' hb rb mb pb n g (piecesOf L) c 600000 [rb] := by
  obtain ⟨BL, hBL⟩ := lift_list (q := fun x : Bk => (0 ≤ x.1 ∧ x.1 ≤ 1000000 ∧ 0 ≤ x.2.1 ∧ x.2.1 ≤ 1000000) ∧ qB n g x) L (fun x hx => ⟨by have := h.bd hx; omega, h.qB x hx⟩)
  have hv : valq (q := qB n g) BL = L := hBL
  obtain ⟨S', hA, hS⟩ := chk_done h.rep (K := 4096) (fun c _ => h.fl c)
  have hlen : BL.length ≤ 4096 := by
    have := h.len
    rw [← hBL] at this
    simpa using this
  refine check_ok w hb rb mb pb n 4096 S' g c (piecesOf L) BL (by rw [blocks_of h.rep.ct h.nf]; exact hBL) hH h.ok (by have := h.pl; omega) (by omega) (by omega) (fun pre x hp => ?_) (by omega) (by rw [hv]; exact hA) ?_ ?_ ?_ ?_
  · obtain ⟨t, ht⟩ := hp
    refine ahead_of h (x := x.1) (A := valq pre) (r := valq t) ?_
    rw [← hBL, ← ht]
    simp [valq]
  · rw [rd_has (hasW_of (by omega) (by omega) (by omega))]; exact hS
  · rw [rd_has (hasW_of (by omega) (by omega) (by omega))]; exact h.rep.zz.1
  · rw [rd_has (hasW_of (by omega) (by omega) (by omega))]; exact h.rep.zz.2.1
  · rw [rd_has (hasW_of (by omega) (by omega) (by omega))]; exact h.rep.zz.2.2.1
theorem left_hs (h : Hs n g L F) (hH : Hp w hb rb mb pb n g c (piecesOf L)) : Calls Tryz.prog 15 #[.pointer (some ⟨hb, 0, none⟩)] w fun e w' => e = .returned (.int .i64 (leftP L)) ∧ Kp w w' [] := by
  obtain ⟨BL, hBL⟩ := lift_list (q := fun x : Bk => 0 ≤ x.1 ∧ x.1 ≤ 1000000 ∧ 0 ≤ x.2.1 ∧ x.2.1 ≤ 1000000) L (fun x hx => by have := h.bd hx; omega)
  have hlen : BL.length ≤ 4096 := by
    have := h.len
    rw [← hBL] at this
    simpa using this
  have q := left_any w hb rb mb pb n g c (piecesOf L) BL (by rw [blocks_of h.rep.ct h.nf]; exact hBL) hH h.ok (by have := h.pl; omega) (by omega)
  rw [blocks_of h.rep.ct h.nf, ← left_tie] at q
  exact q
theorem len_hs (hH : Hp w hb rb mb pb n g c (piecesOf L)) : Calls Tryz.prog 23 #[.pointer (some ⟨hb, 0, none⟩)] w fun e w' => e = .returned (.int .i64 (lenP L)) ∧ Kp w w' [] := by
  rw [len_tie]
  exact len_any w hb rb mb pb n g c _ hH
theorem lawb_hs (h : Hs n g L F) (hH : Hp w hb rb mb pb n g c (piecesOf L)) {V : Value} (hV : Br w 0 V L) (leave : Int) : Calls Tryz.prog 24 #[.pointer (some ⟨hb, 0, none⟩), V, .int .i64 leave] w fun e w' => e = .returned (.bool true) ∧ Kp w w' [] := by
  obtain ⟨BL, hBL⟩ := lift_list (q := fun x : Bk => 0 ≤ x.1 ∧ x.1 ≤ 1000000 ∧ 0 ≤ x.2.1 ∧ x.2.1 ≤ 1000000) L (fun x hx => by have := h.bd hx; omega)
  have hv : vals BL = L := hBL
  have hlen : BL.length ≤ 4096 := by
    have := h.len
    rw [← hBL] at this
    simpa using this
  refine lawb_any w _ BL V leave (its_heap hH h.ok (by have := h.pl; omega) (by rw [blocks_of h.rep.ct h.nf]; exact hBL)) ?_ (by omega)
  rw [hv]
  exact Rb.of_owns (base := 0) hV
end
end Go.Proofs.YtgefmnnkpffpcaaGreatDoor

/- TlsfCost's plain facts: the pieces that were told, and blocks. No Go is walked here. -/
namespace Go.Proofs.YtgefmnnkpffpcaaGreatDoor

/-- Words and pieces are those of blocks; the offsets told are the pieces', each once. -/
def Cst (n : Nat) (g : Mem) (P : Pcs) (ls : List Int) : Prop :=
  ∃ L F, Rep n g L F (fun _ => False) ∧ P = piecesOf L ∧ nf L ∧ ls.Perm (P.map (·.1))

theorem cs_new {n : Nat} (h : Good n) : Cst n (fresh0 n) [] [] := by
  obtain ⟨h1, h2, h3⟩ := h
  obtain ⟨F, hF⟩ := rep_new (n := n) (by omega) (by omega) (by omega)
  exact ⟨_, F, hF, rfl, trivial, List.Perm.refl _⟩
theorem blocks_new (n : Nat) (h : Good n) : blocksOf n [] = [(112, (n : Int) - 112, true)] := by
  have : (112 : Int) < n := by have := h.1; omega
  simp [blocksOf, bst, filled, this]
theorem cs_length {n : Nat} {g : Mem} {P : Pcs} {ls : List Int} (h : Cst n g P ls) : P.length = ls.length := by
  obtain ⟨L, F, hR, rfl, hn, hp⟩ := h
  have := hp.length_eq
  simpa using this.symm
theorem cs_done {n : Nat} {g : Mem} {P : Pcs} (h : Cst n g P []) : P = [] := List.eq_nil_of_length_eq_zero (cs_length h)
/-- The pieces' offsets are apart. -/
theorem pieces_nodup {n : Nat} {L : List Bl} (h : contig 112 L n) : ((piecesOf L).map (·.1)).Nodup := by
  suffices H : ∀ (L : List Bl) (a : Int), contig a L n → ((piecesOf L).map (·.1)).Nodup from H L 112 h
  intro L
  induction L with
  | nil => intro a _; exact List.nodup_nil
  | cons x r ih =>
    intro a hc
    obtain ⟨b, z, f⟩ := x
    obtain ⟨rfl, h1, h2, h3⟩ := hc
    have hr := ih _ h3
    cases f with
    | true => exact hr
    | false =>
      show ((b + 8) :: (piecesOf r).map (·.1)).Nodup
      refine List.nodup_cons.2 ⟨fun hm => ?_, hr⟩
      obtain ⟨p, hp, e⟩ := List.mem_map.1 hm
      obtain ⟨d, hd, e2⟩ := mem_pieces.1 hp
      have := contig_mem h3 hd
      simp only at this
      omega
theorem cs_nodup {n : Nat} {g : Mem} {P : Pcs} {ls : List Int} (h : Cst n g P ls) : ls.Nodup := by
  obtain ⟨L, F, hR, rfl, hn, hp⟩ := h
  exact hp.nodup_iff.2 (pieces_nodup hR.ct)
theorem cs_ok {n : Nat} {g : Mem} {P : Pcs} {ls : List Int} (h : Cst n g P ls) : Okp n P := by
  obtain ⟨L, F, hR, rfl, hn, hp⟩ := h
  intro p hp
  have := pieces_at hR.ct hp
  omega
theorem cs_has {n : Nat} {g : Mem} {P : Pcs} {ls : List Int} (h : Cst n g P ls) {o : Int} (ho : o ∈ ls) : hasP P o = true := by
  obtain ⟨L, F, hR, rfl, hn, hp⟩ := h
  obtain ⟨p, hp, e⟩ := List.mem_map.1 ((hp.mem_iff).1 ho)
  unfold hasP
  exact List.any_eq_true.2 ⟨p, hp, by simp [e]⟩
theorem cs_piece {n : Nat} {g : Mem} {P : Pcs} {ls : List Int} (h : Cst n g P ls) {o : Int} (ho : o ∈ ls) : o % 8 = 0 ∧ 120 ≤ o ∧ 16 ≤ getP P o ∧ o - 8 + getP P o ≤ n ∧ getP P o % 8 = 0 ∧ n ≤ 65536 := by
  have hm := getP_mem (cs_has h ho)
  obtain ⟨L, F, hR, rfl, hn, hp⟩ := h
  have := pieces_at hR.ct hm
  have := hR.nn
  simp only at *
  omega
/-- Two pieces never overlap. -/
theorem cs_apart {n : Nat} {g : Mem} {P : Pcs} {ls : List Int} (h : Cst n g P ls) {x y : Int} (hx : x ∈ ls) (hy : y ∈ ls) (hne : x ≠ y) : x + getP P x ≤ y ∨ y + getP P y ≤ x := by
  have m1 := getP_mem (cs_has h hx)
  have m2 := getP_mem (cs_has h hy)
  obtain ⟨L, F, hR, rfl, hn, hp⟩ := h
  rcases pieces_apart hR.ct m1 m2 with e | e | e
  · exact absurd (congrArg Prod.fst e) hne
  · exact .inl e
  · exact .inr e
theorem perm_put {ls : List Int} {A r : Pcs} {x t : Int} (h : ls.Perm ((A ++ r).map (·.1))) : (ls ++ [x]).Perm ((A ++ (x, t) :: r).map (·.1)) := by
  rw [List.map_append] at h
  rw [List.map_append, List.map_cons]
  refine (List.perm_append_comm (l₁ := ls) (l₂ := [x])).trans ?_
  exact ((List.perm_cons x).2 h).trans List.perm_middle.symm
theorem cs_alloc {n : Nat} {g : Mem} {P : Pcs} {ls : List Int} (h : Cst n g P ls) {m : Int} (h1 : 1 ≤ m) (h2 : m ≤ 65536) :
    alloc n g P m = none ∨ ∃ a g' P', alloc n g P m = some (a, g', P') ∧ Cst n g' P' (ls ++ [a]) := by
  obtain ⟨L, F, hR, rfl, hn, hp⟩ := h
  have hm : 16 ≤ needed m ∧ needed m < 500000 := by unfold needed; omega
  rcases rep_alloc hR (m := m) (fun a s g' e => (find_some hm.1 hm.2 e).2.2.2.2.2) with e | ⟨a, s, t, A, r, L', F', e1, e2, w1, w2, w3, -, -, w4⟩
  · exact .inl e
  · obtain ⟨x, hx⟩ : ∃ x, give n (takeOut n g a s) (piecesOf L) a s (needed m) = x := ⟨_, rfl⟩
    rw [hx] at e2 w1 w2
    obtain ⟨g', P'⟩ := x
    simp only at w1 w2
    refine .inr ⟨a + 8, g', P', e2, L', F', w1, w2.symm, w4 hn, ?_⟩
    rw [← w2, w3]
    subst e1
    refine perm_put ?_
    rw [pieces_app] at hp
    exact hp
theorem cs_aligned {n : Nat} {g : Mem} {P : Pcs} {ls : List Int} (h : Cst n g P ls) {mul m : Int} (hmul : isMul mul = true) (h1 : 1 ≤ m) (h2 : m ≤ 65536) :
    aligned n g P mul m = none ∨ ∃ a g' P', aligned n g P mul m = some (a, g', P') ∧ Cst n g' P' (ls ++ [a]) ∧ a % mul = 0 := by
  obtain ⟨k, hk3, hk12, hmk⟩ := mul_pow hmul
  have hmb : 8 ≤ mul ∧ mul ≤ 4096 := by
    unfold isMul at hmul
    simp only [Bool.and_eq_true, decide_eq_true_eq] at hmul
    exact hmul.1
  obtain ⟨L, F, hR, rfl, hn, hp⟩ := h
  have hm : 16 ≤ needed m ∧ needed m < 100000 ∧ needed m % 8 = 0 := by unfold needed; omega
  unfold aligned
  rcases rep_find hR (needed m + mul + 16) with e | ⟨a, s, F', e, hs, -, h3⟩
  · left; rw [e]
  · right
    have fs := find_some (by omega) (by omega) e
    rw [e]
    simp only
    obtain ⟨A, r, hL⟩ := List.append_of_mem hs
    subst hL
    have fa := aligned_facts (a := a) hmk hk3 fs.2.1
    have hpp : ls.Perm ((piecesOf A ++ piecesOf r).map (·.1)) := by rw [pieces_app] at hp; exact hp
    by_cases hlt : a < alignedFrom a mul
    · rw [if_pos hlt]
      obtain ⟨L', F'', t, w1, w2, w3, -, -, w4⟩ := rep_from (b := alignedFrom a mul) h3 hm.1 hm.2.2 (by omega) (by omega) (by omega)
      obtain ⟨x, hx⟩ : ∃ x, give n (putIn n (takeOut n g a s) a (alignedFrom a mul - a)) (piecesOf (A ++ (a, s, true) :: r)) (alignedFrom a mul) (a + s - alignedFrom a mul) (needed m) = x := ⟨_, rfl⟩
      rw [hx] at w1 w2 ⊢
      obtain ⟨g', P'⟩ := x
      simp only at w1 w2
      refine ⟨_, g', P', rfl, ⟨L', F'', w1, w2.symm, w4 hn, ?_⟩, fa.2.2.2.2.2.2⟩
      rw [← w2, w3]
      exact perm_put hpp
    · rw [if_neg hlt]
      have ea : alignedFrom a mul = a := by omega
      obtain ⟨L', F'', w1, w2, w3, w4⟩ := rep_given h3 hm.1 hm.2.2
      obtain ⟨x, hx⟩ : ∃ x, give n (takeOut n g a s) (piecesOf (A ++ (a, s, true) :: r)) a s (needed m) = x := ⟨_, rfl⟩
      rw [hx] at w1 w2 w3 ⊢
      obtain ⟨g', P'⟩ := x
      simp only at w1 w2 w3
      refine ⟨_, g', P', rfl, ⟨L', F'', w1, w2.symm, w4 (nf_left hn) (nf_tail (nf_right hn)), ?_⟩, by have := fa.2.2.2.2.2.2; rw [ea] at this; exact this⟩
      rw [w3]
      exact perm_put hpp
theorem cs_free {n : Nat} {g : Mem} {P : Pcs} {ls : List Int} (h : Cst n g P ls) {k : Nat} {o : Int} (hk : ls[k]? = some o) :
    Cst n (freed n g (delP P o) (o - 8) (getP P o)) (delP P o) (ls.take k ++ ls.drop (k + 1)) := by
  have hmem : o ∈ ls := List.mem_of_getElem? hk
  have hm := getP_mem (cs_has h hmem)
  have hnd := cs_nodup h
  obtain ⟨L, F, hR, rfl, hn, hp⟩ := h
  obtain ⟨z, hz⟩ : ∃ z, getP (piecesOf L) o = z := ⟨_, rfl⟩
  rw [hz] at hm ⊢
  obtain ⟨a, ha, e⟩ := mem_pieces.1 hm
  simp only at ha e
  obtain ⟨A, r, hL⟩ := List.append_of_mem ha
  subst hL
  subst e
  rw [show a + 8 - 8 = a by omega]
  obtain ⟨L', F', w1, w2, w3⟩ := rep_free hR
  refine ⟨L', F', w1, w2.symm, w3 hn, ?_⟩
  have hd := pieces_del hR.ct
  rw [hd]
  have hsp : ls = ls.take k ++ (a + 8) :: ls.drop (k + 1) := by
    have hlt : k < ls.length := by
      rcases Nat.lt_or_ge k ls.length with q | q
      · exact q
      · rw [List.getElem?_eq_none q] at hk; cases hk
    have : ls[k] = a + 8 := by rw [List.getElem?_eq_getElem hlt] at hk; simpa using hk
    rw [← this]
    simp
  have p1 : ((a + 8) :: (ls.take k ++ ls.drop (k + 1))).Perm ((a + 8) :: (piecesOf (A ++ (a, z, true) :: r)).map (·.1)) := by
    refine List.perm_middle.symm.trans ?_
    rw [← hsp]
    refine hp.trans ?_
    rw [pieces_app, pieces_app, List.map_append, List.map_append]
    exact List.perm_middle
  exact (List.perm_cons _).1 p1
end Go.Proofs.YtgefmnnkpffpcaaGreatDoor

/- apart: a piece and others. -/
namespace Go.Proofs.YtgefmnnkpffpcaaGreatDoor
open Go.RowKit

set_option maxRecDepth 100000 in
theorem num_any (w : World) (x : Int) : Calls Tryz.prog 13 #[.int .i64 x] w fun e w' => e = .returned (.int .i64 x) ∧ w' = w := by
  go_enter Tryz.func13, Tryz.ntmps13
  go_wp2
  go_ret
  exact ⟨rfl, rfl⟩

set_option maxRecDepth 100000 in
set_option maxHeartbeats 2000000 in
theorem apart_ok (w : World) (hb rb mb pb n base : Nat) (g : Mem) (c : Int) (P : Pcs) (V : Value) (ls cs : List Int) (o : Int) (h : Hp w hb rb mb pb n g c P) (hC : Cst n g P cs) (hV : Is w base V ls) (ho : o ∈ cs) (hls : ∀ x ∈ ls, x ∈ cs ∧ x ≠ o) (hlen : ls.length ≤ 1000) :
    Calls Tryz.prog 20 #[.pointer (some ⟨hb, 0, none⟩), V, .int .i64 o] w fun e w' => e = .returned (.bool true) ∧ Kp w w' [] := by
  obtain ⟨ao, cap, rfl⟩ := hV.slice
  have p0 := cs_piece hC ho
  obtain ⟨z, hz⟩ : ∃ z, getP P o = z := ⟨_, rfl⟩
  rw [hz] at p0
  have HZ := hid hz
  have H := hid h
  have HC := hid hC
  have HV := hid hV
  have HO := hid ho
  have HL := hid hls
  obtain ⟨p1, p2, p3, p4, p5, p6⟩ := p0
  clear h hC hV hz hls p1 p5
  obtain ⟨N, hN⟩ : ∃ N, ls.length = N := ⟨_, rfl⟩
  rw [hN] at hlen ⊢
  have HN := hid hN
  clear hN
  go_enter Tryz.func20, Tryz.ntmps20
  go_wp2_with fail
  refine (hsize_ok w hb rb mb pb n g c P o z H.out (by omega) (by omega) (cs_has HC.out HO.out) HZ.out (by omega) (by omega)).mono ?_
  rintro e w1 ⟨rfl, hK⟩
  have K1 := hid hK
  clear hK
  go_wp2_with fail
  refine (num_any w1 0).mono ?_
  rintro e w' ⟨rfl, hE⟩
  rw [hE]
  clear hE
  go_wp2_with fail
  go_loopw [9] (fun v wr => ∃ k : Nat, k ≤ N ∧ v = .int .i64 k ∧ Hid (Kp w wr [])) (fun v _ => N - (intOf v).toNat)
  case atStart => exact ⟨0, Nat.zero_le _, rfl, K1.out⟩
  case round =>
    obtain ⟨k, hk, rfl, hKk⟩ := hrel
    by_cases hlt : k < N
    · have hltI : (k : Int) < N := by omega
      have hx : ls[k]? = some (ls[k]'(by have := HN.out; omega)) := List.getElem?_eq_getElem _
      obtain ⟨x, hxe⟩ : ∃ x, ls[k]'(by have := HN.out; omega) = x := ⟨_, rfl⟩
      rw [hxe] at hx
      have hmem : x ∈ ls := List.mem_of_getElem? hx
      have hV' := HV.out.keep hKk.out
      rw [HN.out] at hV'
      obtain ⟨gb, rfl, -, -, cx⟩ := hV'.at hx
      have hcs := HL.out x hmem
      have q0 := cs_piece HC.out hcs.1
      have hap := cs_apart HC.out hcs.1 HO.out hcs.2
      obtain ⟨u, hu⟩ : ∃ u, getP P x = u := ⟨_, rfl⟩
      rw [hu] at q0 hap
      rw [HZ.out] at hap
      have HU := hid hu
      have HX := hid hcs.1
      obtain ⟨q1, q2, q3, q4, q5, q6⟩ := q0
      clear hx hxe hmem hV' hcs hu q1 q5
      go_wp2_with fail
      refine (hsize_ok _ hb rb mb pb n g c P x u (H.out.same hKk.out) (by omega) (by omega) (cs_has HC.out HX.out) HU.out (by omega) (by omega)).mono ?_
      rintro e w2 ⟨rfl, hK⟩
      have cx2 := hK.cell cx (by simp)
      have K2 := hid (hKk.out.trans hK)
      clear hK cx
      by_cases hov : x < o + (z - 8)
      · have hov2 : ¬ o < x + (u - 8) := by omega
        go_wp2_with (go_at_call 13; refine (num_any w2 0).mono ?_; rintro e w' ⟨rfl, hE⟩; rw [hE]; clear hE)
        go_roundw
        case rel => exact ⟨k + 1, by omega, by simp, K2⟩
        case measure => simp [intOf]; omega
      · go_wp2_with (go_at_call 13; refine (num_any w2 0).mono ?_; rintro e w' ⟨rfl, hE⟩; rw [hE]; clear hE)
        go_roundw
        case rel => exact ⟨k + 1, by omega, by simp, K2⟩
        case measure => simp [intOf]; omega
    · have hltI : ¬ (k : Int) < N := by omega
      go_wp2
      go_ret
      exact ⟨rfl, hKk.out⟩
end Go.Proofs.YtgefmnnkpffpcaaGreatDoor
