/- isMultiple, alignedFrom, Aligned. -/
import Derived.Test.YtgefmnnkpffpcaaGreatDoorHrepBlocksJ
import Derived.Test.YtgefmnnkpffpcaaGreatDoorHrepNewJ
import Derived.Test.YtgefmnnkpffpcaaGreatDoorHfillJ
namespace Go.Proofs.YtgefmnnkpffpcaaGreatDoor
open Go.RowKit Go.Maps

/-- A power of two from 8 to 4096. -/
def isMul (m : Int) : Bool := decide (8 ≤ m ∧ m ≤ 4096) && (m.toNat &&& (m.toNat - 1) == 0)
theorem mul_pow {m : Int} (h : isMul m = true) : ∃ k : Nat, 3 ≤ k ∧ k ≤ 12 ∧ m = 2 ^ k := by
  unfold isMul at h
  simp only [Bool.and_eq_true] at h
  have h1 := of_decide_eq_true h.1
  obtain ⟨k, e⟩ := (Nat.and_sub_one_eq_zero_iff_isPowerOfTwo (n := m.toNat) (by omega)).1 (by simpa using h.2)
  refine ⟨k, ?_, ?_, ?_⟩
  · refine Nat.le_of_not_lt fun hlt => ?_
    have : 2 ^ k ≤ 2 ^ 2 := Nat.pow_le_pow_right (by decide) (by omega)
    omega
  · refine Nat.le_of_not_lt fun hlt => ?_
    have : 2 ^ 13 ≤ 2 ^ k := Nat.pow_le_pow_right (by decide) (by omega)
    omega
  · have : (m.toNat : Int) = ((2 ^ k : Nat) : Int) := by rw [e]
    push_cast at this
    omega

set_option maxRecDepth 100000 in
theorem isMul_any (w : World) (m : Int) (h0 : -9223372036854775808 ≤ m) : Calls Tryz.prog 59 #[.int .i64 m] w fun e w' => e = .returned (.bool (isMul m)) ∧ w' = w := by
  obtain ⟨B, hB⟩ : ∃ B, isMul m = B := ⟨_, rfl⟩
  rw [hB]
  unfold isMul at hB
  by_cases h1 : 8 ≤ m
  · by_cases h2 : m ≤ 4096
    · have ha : bits .and .i64 m (m - 1) = ((m.toNat &&& (m.toNat - 1) : Nat) : Int) := by
        have := i64_and m.toNat (m.toNat - 1) (by omega) (by omega)
        rw [show ((m.toNat : Nat) : Int) = m by omega, show ((m.toNat - 1 : Nat) : Int) = m - 1 by omega] at this
        exact this
      obtain ⟨x, hx⟩ : ∃ x, m.toNat &&& (m.toNat - 1) = x := ⟨_, rfl⟩
      rw [hx] at ha hB
      rw [decide_eq_true ⟨h1, h2⟩] at hB
      have E := hid (show ((x : Int) == 0) = B by
        rw [← hB]
        by_cases hx0 : x = 0
        · subst hx0; rfl
        · rw [beq_eq_false_iff_ne.2 (by omega), Bool.true_and, beq_eq_false_iff_ne.2 hx0])
      clear hB hx
      go_enter Tryz.func59, Tryz.ntmps59
      go_wp2
      go_ret
      exact ⟨ret_b E.out, rfl⟩
    · have hb : B = false := by rw [← hB, decide_eq_false (by omega)]; rfl
      subst hb
      clear hB
      have t2 : decide (m ≤ 4096) = false := decide_eq_false h2
      go_enter Tryz.func59, Tryz.ntmps59
      go_wp2
      go_ret
      exact ⟨rfl, rfl⟩
  · have hb : B = false := by rw [← hB, decide_eq_false (by omega)]; rfl
    subst hb
    clear hB
    go_enter Tryz.func59, Tryz.ntmps59
    go_wp2
    go_ret
    exact ⟨rfl, rfl⟩

def alignedFrom (a m : Int) : Int := if (a + 8) % m = 0 then a else (a + 24 + m - 1) / m * m - 8
set_option maxRecDepth 100000 in
theorem alignedFrom_any (w : World) (a m : Int) (k : Nat) (hm : m = 2 ^ k) (hk3 : 3 ≤ k) (hk : k ≤ 12) (h0 : 0 ≤ a) (h1 : a < 1048576) :
    Calls Tryz.prog 60 #[.int .i64 a, .int .i64 m] w fun e w' => e = .returned (.int .i64 (alignedFrom a m)) ∧ w' = w := by
  have hm8 : 8 ≤ m ∧ m ≤ 4096 := by
    have a1 : 2 ^ 3 ≤ 2 ^ k := Nat.pow_le_pow_right (by decide) hk3
    have a2 : 2 ^ k ≤ 2 ^ 12 := Nat.pow_le_pow_right (by decide) hk
    have : m = ((2 ^ k : Nat) : Int) := by rw [hm]; push_cast; rfl
    omega
  have HM := hid hm
  obtain ⟨r, hr⟩ : ∃ r, alignedFrom a m = r := ⟨_, rfl⟩
  rw [hr]
  unfold alignedFrom at hr
  clear hm
  by_cases h8 : (a + 8) % m = 0
  · rw [if_pos h8] at hr
    have t8 : ((a + 8) % m == 0) = true := by simp [h8]
    have E := hid hr
    clear hr h8
    go_enter Tryz.func60, Tryz.ntmps60
    go_wp2
    go_ret
    exact ⟨ret_i E.out, rfl⟩
  · rw [if_neg h8] at hr
    have t8 : ((a + 8) % m == 0) = false := by simp [h8]
    have E := hid hr
    clear hr h8
    have hd : 0 ≤ (a + 24 + m - 1) / m * m ∧ (a + 24 + m - 1) / m * m ≤ a + 24 + m - 1 := by
      have h1 := Int.ediv_mul_le (a + 24 + m - 1) (show m ≠ 0 by omega)
      have h2 := Int.ediv_nonneg (a := a + 24 + m - 1) (b := m) (by omega) (by omega)
      have h3 := Int.mul_nonneg h2 (show 0 ≤ m by omega)
      exact ⟨h3, h1⟩
    go_enter Tryz.func60, Tryz.ntmps60
    go_wp2_with fail
    refine (roundUp_any w (a + 16 + 8) k m HM.out hk (by omega) (by omega)).mono ?_
    rintro e w' ⟨rfl, hE⟩
    rw [hE, show a + 16 + 8 = a + 24 by omega]
    clear hE
    go_wp2
    go_ret
    exact ⟨ret_i E.out, rfl⟩

/-- Where the block begins whose piece stands at a multiple. -/
theorem aligned_facts {a m : Int} {k : Nat} (hm : m = 2 ^ k) (hk3 : 3 ≤ k) (ha8 : a % 8 = 0) : 8 ≤ m ∧ m % 8 = 0 ∧ a ≤ alignedFrom a m ∧ (alignedFrom a m = a ∨ 16 ≤ alignedFrom a m - a) ∧ alignedFrom a m ≤ a + 15 + m ∧ alignedFrom a m % 8 = 0 ∧ (alignedFrom a m + 8) % m = 0 := by
  obtain ⟨j, hj⟩ : ∃ j, k = j + 3 := ⟨k - 3, by omega⟩
  obtain ⟨q, hq⟩ : ∃ q : Int, (2 : Int) ^ j = q := ⟨_, rfl⟩
  have hq0 : 0 < q := by rw [← hq]; exact Int.pow_pos (by decide)
  have e : m = 8 * q := by rw [hm, hj, Int.pow_succ, Int.pow_succ, Int.pow_succ, hq]; omega
  unfold alignedFrom
  by_cases h : (a + 8) % m = 0
  · rw [if_pos h]
    exact ⟨by omega, by omega, by omega, by omega, by omega, ha8, h⟩
  · rw [if_neg h]
    obtain ⟨d, hd⟩ : ∃ d, (a + 24 + m - 1) / m = d := ⟨_, rfl⟩
    rw [hd]
    have h1 := Int.ediv_mul_le (a + 24 + m - 1) (show m ≠ 0 by omega)
    have h2 := Int.lt_ediv_add_one_mul_self (a + 24 + m - 1) (show 0 < m by omega)
    rw [hd] at h1 h2
    rw [Int.add_mul] at h2
    have e8 : d * m = 8 * (d * q) := by rw [e, ← Int.mul_assoc, Int.mul_comm d 8, Int.mul_assoc]
    refine ⟨by omega, by omega, by omega, by omega, by omega, by omega, ?_⟩
    rw [show d * m - 8 + 8 = d * m by omega]
    exact Int.mul_emod_left _ _

def aligned (n : Nat) (g : Mem) (P : Pcs) (mul m : Int) : Option (Int × Mem × Pcs) :=
  match find n g P (needed m + mul + 16) with
  | none => none
  | some (a, z, g1) =>
    if a < alignedFrom a mul then some (alignedFrom a mul + 8, give n (putIn n g1 a (alignedFrom a mul - a)) P (alignedFrom a mul) (a + z - alignedFrom a mul) (needed m))
    else some (a + 8, give n g1 P a z (needed m))

set_option maxRecDepth 100000 in
theorem enters58 : ∀ args w, (callFunc 58 args).run Tryz.prog w = .ok (.enter 58 args) w := enters_of Tryz.func58 (by kernel_rfl) rfl
set_option maxRecDepth 100000 in
theorem may2 (w : World) (p0 p1 : Nat) (mul m : Int) (h0 : w.cell? ⟨p0, 0, none⟩ = some (.int .i64 mul)) (h1 : w.cell? ⟨p1, 0, none⟩ = some (.int .i64 m)) (hm : -9223372036854775808 ≤ mul) :
    Calls Tryz.prog 58 #[.pointer (some ⟨p0, 0, none⟩), .pointer (some ⟨p1, 0, none⟩)] w fun e w' => e = .returned (.bool (isMul mul && mayB m)) ∧ Kp w w' [] := by
  cases hB : isMul mul with
  | false =>
    have HB := hid hB
    clear hB
    go_enter Tryz.func58, Tryz.ntmps58
    go_wp2_with fail
    refine (isMul_any w mul hm).mono ?_
    rintro e w1 ⟨rfl, rfl⟩
    rw [HB.out]
    go_wp2
    go_ret
    exact ⟨rfl, Kp.refl _ _⟩
  | true =>
    have HB := hid hB
    clear hB
    go_enter Tryz.func58, Tryz.ntmps58
    go_wp2_with fail
    refine (isMul_any w mul hm).mono ?_
    rintro e w1 ⟨rfl, rfl⟩
    rw [HB.out]
    go_wp2_with fail
    refine (mayHave_any _ m).mono ?_
    rintro e w2 ⟨rfl, rfl⟩
    go_wp2
    go_ret
    exact ⟨rfl, Kp.refl _ _⟩

set_option maxRecDepth 100000 in
theorem aligned_no (w : World) (hb rb mb pb n : Nat) (g : Mem) (c : Int) (P : Pcs) (mul m : Int) (h : Hp w hb rb mb pb n g c P) (hm0 : -9223372036854775808 ≤ mul) (hm : (isMul mul && mayB m) = false) :
    Calls Tryz.prog 19 #[.pointer (some ⟨hb, 0, none⟩), .int .i64 mul, .int .i64 m] w fun e w' => e = .returned (.tuple #[.int .i64 0, .int .i64 2]) ∧ Kp w w' [] := by
  have A1 := hid ((Kp.alloc w (.cells #[.int .i64 mul] 3) []).trans (Kp.alloc _ (.cells #[.int .i64 m] 3) []))
  have H1 := hid (h.same A1.out)
  have M := hid hm
  clear h hm
  go_enter Tryz.func19, Tryz.ntmps19
  go_wp2_with fail
  refine (refusal_any _ hb rb mb pb n 58 _ g c P (isMul mul && mayB m) H1.out enters58 (may2 _ _ _ mul m (cell_past cell_new0) cell_new1 hm0)).mono ?_
  rintro e w1 ⟨rfl, hK1⟩
  rw [M.out]
  have K1 := hid (A1.out.trans hK1)
  clear hK1
  go_wp2
  go_ret2
  exact ⟨rfl, K1.out⟩
end Go.Proofs.YtgefmnnkpffpcaaGreatDoor

/- TlsfCost's plain facts: the pieces that were told, and blocks. No Go is walked here. -/
namespace Go.Proofs.YtgefmnnkpffpcaaGreatDoor

/-- Words and pieces are those of blocks; the offsets told are the pieces', each once. -/
def Cst (n : Nat) (g : Mem) (P : Pcs) (ls : List Int) : Prop :=
  ∃ L F, Rep n g L F (fun _ => False) ∧ P = piecesOf L ∧ nf L ∧ ls.Perm (P.map (·.1))

theorem cs_new {n : Nat} (h : Good n) : Cst n (fresh0 n) [] [] := by
  obtain ⟨h1, h2, h3⟩ := h
  obtain ⟨F, hF⟩ := rep_new (n := n) (by omega) (by omega) (by omega)
  exact ⟨_, F, hF, rfl, trivial, List.Perm.refl _⟩
theorem blocks_new (n : Nat) (h : Good n) : blocksOf n [] = [(112, (n : Int) - 112, true)] := by
  have : (112 : Int) < n := by have := h.1; omega
  simp [blocksOf, bst, filled, this]
theorem cs_length {n : Nat} {g : Mem} {P : Pcs} {ls : List Int} (h : Cst n g P ls) : P.length = ls.length := by
  obtain ⟨L, F, hR, rfl, hn, hp⟩ := h
  have := hp.length_eq
  simpa using this.symm
theorem cs_done {n : Nat} {g : Mem} {P : Pcs} (h : Cst n g P []) : P = [] := List.eq_nil_of_length_eq_zero (cs_length h)
/-- The pieces' offsets are apart. -/
theorem pieces_nodup {n : Nat} {L : List Bl} (h : contig 112 L n) : ((piecesOf L).map (·.1)).Nodup := by
  suffices H : ∀ (L : List Bl) (a : Int), contig a L n → ((piecesOf L).map (·.1)).Nodup from H L 112 h
  intro L
  induction L with
  | nil => intro a _; exact List.nodup_nil
  | cons x r ih =>
    intro a hc
    obtain ⟨b, z, f⟩ := x
    obtain ⟨rfl, h1, h2, h3⟩ := hc
    have hr := ih _ h3
    cases f with
    | true => exact hr
    | false =>
      show ((b + 8) :: (piecesOf r).map (·.1)).Nodup
      refine List.nodup_cons.2 ⟨fun hm => ?_, hr⟩
      obtain ⟨p, hp, e⟩ := List.mem_map.1 hm
      obtain ⟨d, hd, e2⟩ := mem_pieces.1 hp
      have := contig_mem h3 hd
      simp only at this
      omega
theorem cs_nodup {n : Nat} {g : Mem} {P : Pcs} {ls : List Int} (h : Cst n g P ls) : ls.Nodup := by
  obtain ⟨L, F, hR, rfl, hn, hp⟩ := h
  exact hp.nodup_iff.2 (pieces_nodup hR.ct)
theorem cs_ok {n : Nat} {g : Mem} {P : Pcs} {ls : List Int} (h : Cst n g P ls) : Okp n P := by
  obtain ⟨L, F, hR, rfl, hn, hp⟩ := h
  intro p hp
  have := pieces_at hR.ct hp
  omega
theorem cs_has {n : Nat} {g : Mem} {P : Pcs} {ls : List Int} (h : Cst n g P ls) {o : Int} (ho : o ∈ ls) : hasP P o = true := by
  obtain ⟨L, F, hR, rfl, hn, hp⟩ := h
  obtain ⟨p, hp, e⟩ := List.mem_map.1 ((hp.mem_iff).1 ho)
  unfold hasP
  exact List.any_eq_true.2 ⟨p, hp, by simp [e]⟩
theorem cs_piece {n : Nat} {g : Mem} {P : Pcs} {ls : List Int} (h : Cst n g P ls) {o : Int} (ho : o ∈ ls) : o % 8 = 0 ∧ 120 ≤ o ∧ 16 ≤ getP P o ∧ o - 8 + getP P o ≤ n ∧ getP P o % 8 = 0 ∧ n ≤ 65536 := by
  have hm := getP_mem (cs_has h ho)
  obtain ⟨L, F, hR, rfl, hn, hp⟩ := h
  have := pieces_at hR.ct hm
  have := hR.nn
  simp only at *
  omega
/-- Two pieces never overlap. -/
theorem cs_apart {n : Nat} {g : Mem} {P : Pcs} {ls : List Int} (h : Cst n g P ls) {x y : Int} (hx : x ∈ ls) (hy : y ∈ ls) (hne : x ≠ y) : x + getP P x ≤ y ∨ y + getP P y ≤ x := by
  have m1 := getP_mem (cs_has h hx)
  have m2 := getP_mem (cs_has h hy)
  obtain ⟨L, F, hR, rfl, hn, hp⟩ := h
  rcases pieces_apart hR.ct m1 m2 with e | e | e
  · exact absurd (congrArg Prod.fst e) hne
  · exact .inl e
  · exact .inr e
theorem perm_put {ls : List Int} {A r : Pcs} {x t : Int} (h : ls.Perm ((A ++ r).map (·.1))) : (ls ++ [x]).Perm ((A ++ (x, t) :: r).map (·.1)) := by
  rw [List.map_append] at h
  rw [List.map_append, List.map_cons]
  refine (List.perm_append_comm (l₁ := ls) (l₂ := [x])).trans ?_
  exact ((List.perm_cons x).2 h).trans List.perm_middle.symm
theorem cs_alloc {n : Nat} {g : Mem} {P : Pcs} {ls : List Int} (h : Cst n g P ls) {m : Int} (h1 : 1 ≤ m) (h2 : m ≤ 65536) :
    alloc n g P m = none ∨ ∃ a g' P', alloc n g P m = some (a, g', P') ∧ Cst n g' P' (ls ++ [a]) := by
  obtain ⟨L, F, hR, rfl, hn, hp⟩ := h
  have hm : 16 ≤ needed m ∧ needed m < 500000 := by unfold needed; omega
  rcases rep_alloc hR (m := m) (fun a s g' e => (find_some hm.1 hm.2 e).2.2.2.2.2) with e | ⟨a, s, t, A, r, L', F', e1, e2, w1, w2, w3, -, -, w4⟩
  · exact .inl e
  · obtain ⟨x, hx⟩ : ∃ x, give n (takeOut n g a s) (piecesOf L) a s (needed m) = x := ⟨_, rfl⟩
    rw [hx] at e2 w1 w2
    obtain ⟨g', P'⟩ := x
    simp only at w1 w2
    refine .inr ⟨a + 8, g', P', e2, L', F', w1, w2.symm, w4 hn, ?_⟩
    rw [← w2, w3]
    subst e1
    refine perm_put ?_
    rw [pieces_app] at hp
    exact hp
theorem cs_aligned {n : Nat} {g : Mem} {P : Pcs} {ls : List Int} (h : Cst n g P ls) {mul m : Int} (hmul : isMul mul = true) (h1 : 1 ≤ m) (h2 : m ≤ 65536) :
    aligned n g P mul m = none ∨ ∃ a g' P', aligned n g P mul m = some (a, g', P') ∧ Cst n g' P' (ls ++ [a]) ∧ a % mul = 0 := by
  obtain ⟨k, hk3, hk12, hmk⟩ := mul_pow hmul
  have hmb : 8 ≤ mul ∧ mul ≤ 4096 := by
    unfold isMul at hmul
    simp only [Bool.and_eq_true, decide_eq_true_eq] at hmul
    exact hmul.1
  obtain ⟨L, F, hR, rfl, hn, hp⟩ := h
  have hm : 16 ≤ needed m ∧ needed m < 100000 ∧ needed m % 8 = 0 := by unfold needed; omega
  unfold aligned
  rcases rep_find hR (needed m + mul + 16) with e | ⟨a, s, F', e, hs, -, h3⟩
  · left; rw [e]
  · right
    have fs := find_some (by omega) (by omega) e
    rw [e]
    simp only
    obtain ⟨A, r, hL⟩ := List.append_of_mem hs
    subst hL
    have fa := aligned_facts (a := a) hmk hk3 fs.2.1
    have hpp : ls.Perm ((piecesOf A ++ piecesOf r).map (·.1)) := by rw [pieces_app] at hp; exact hp
    by_cases hlt : a < alignedFrom a mul
    · rw [if_pos hlt]
      obtain ⟨L', F'', t, w1, w2, w3, -, -, w4⟩ := rep_from (b := alignedFrom a mul) h3 hm.1 hm.2.2 (by omega) (by omega) (by omega)
      obtain ⟨x, hx⟩ : ∃ x, give n (putIn n (takeOut n g a s) a (alignedFrom a mul - a)) (piecesOf (A ++ (a, s, true) :: r)) (alignedFrom a mul) (a + s - alignedFrom a mul) (needed m) = x := ⟨_, rfl⟩
      rw [hx] at w1 w2 ⊢
      obtain ⟨g', P'⟩ := x
      simp only at w1 w2
      refine ⟨_, g', P', rfl, ⟨L', F'', w1, w2.symm, w4 hn, ?_⟩, fa.2.2.2.2.2.2⟩
      rw [← w2, w3]
      exact perm_put hpp
    · rw [if_neg hlt]
      have ea : alignedFrom a mul = a := by omega
      obtain ⟨L', F'', w1, w2, w3, w4⟩ := rep_given h3 hm.1 hm.2.2
      obtain ⟨x, hx⟩ : ∃ x, give n (takeOut n g a s) (piecesOf (A ++ (a, s, true) :: r)) a s (needed m) = x := ⟨_, rfl⟩
      rw [hx] at w1 w2 w3 ⊢
      obtain ⟨g', P'⟩ := x
      simp only at w1 w2 w3
      refine ⟨_, g', P', rfl, ⟨L', F'', w1, w2.symm, w4 (nf_left hn) (nf_tail (nf_right hn)), ?_⟩, by have := fa.2.2.2.2.2.2; rw [ea] at this; exact this⟩
      rw [w3]
      exact perm_put hpp
theorem cs_free {n : Nat} {g : Mem} {P : Pcs} {ls : List Int} (h : Cst n g P ls) {k : Nat} {o : Int} (hk : ls[k]? = some o) :
    Cst n (freed n g (delP P o) (o - 8) (getP P o)) (delP P o) (ls.take k ++ ls.drop (k + 1)) := by
  have hmem : o ∈ ls := List.mem_of_getElem? hk
  have hm := getP_mem (cs_has h hmem)
  have hnd := cs_nodup h
  obtain ⟨L, F, hR, rfl, hn, hp⟩ := h
  obtain ⟨z, hz⟩ : ∃ z, getP (piecesOf L) o = z := ⟨_, rfl⟩
  rw [hz] at hm ⊢
  obtain ⟨a, ha, e⟩ := mem_pieces.1 hm
  simp only at ha e
  obtain ⟨A, r, hL⟩ := List.append_of_mem ha
  subst hL
  subst e
  rw [show a + 8 - 8 = a by omega]
  obtain ⟨L', F', w1, w2, w3⟩ := rep_free hR
  refine ⟨L', F', w1, w2.symm, w3 hn, ?_⟩
  have hd := pieces_del hR.ct
  rw [hd]
  have hsp : ls = ls.take k ++ (a + 8) :: ls.drop (k + 1) := by
    have hlt : k < ls.length := by
      rcases Nat.lt_or_ge k ls.length with q | q
      · exact q
      · rw [List.getElem?_eq_none q] at hk; cases hk
    have : ls[k] = a + 8 := by rw [List.getElem?_eq_getElem hlt] at hk; simpa using hk
    rw [← this]
    simp
  have p1 : ((a + 8) :: (ls.take k ++ ls.drop (k + 1))).Perm ((a + 8) :: (piecesOf (A ++ (a, z, true) :: r)).map (·.1)) := by
    refine List.perm_middle.symm.trans ?_
    rw [← hsp]
    refine hp.trans ?_
    rw [pieces_app, pieces_app, List.map_append, List.map_append]
    exact List.perm_middle
  exact (List.perm_cons _).1 p1
end Go.Proofs.YtgefmnnkpffpcaaGreatDoor
