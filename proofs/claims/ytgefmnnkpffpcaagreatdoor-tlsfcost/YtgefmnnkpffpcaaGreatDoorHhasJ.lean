/- hasWord: is a word within a piece? -/
import Derived.Test.YtgefmnnkpffpcaaGreatDoorHfillJ
namespace Go.Proofs.YtgefmnnkpffpcaaGreatDoor
open Go.RowKit Go.Maps

/-- Pieces that may be. -/
def Okp (n : Nat) (P : Pcs) : Prop := ∀ p ∈ P, 120 ≤ p.1 ∧ p.1 % 8 = 0 ∧ 16 ≤ p.2 ∧ p.2 % 8 = 0 ∧ p.1 - 8 + p.2 ≤ n
theorem getP_mem {P : Pcs} {k : Int} (h : hasP P k = true) : (k, getP P k) ∈ P := by
  unfold hasP at h
  unfold getP
  rw [List.any_eq_true] at h
  obtain ⟨p, hp, hk⟩ := h
  cases hf : P.find? (fun p => p.1 == k) with
  | none => rw [List.find?_eq_none] at hf; exact absurd hk (hf p hp)
  | some q =>
    have h1 := List.find?_some hf
    have h2 := List.mem_of_find?_eq_some hf
    have : q.1 = k := by simpa using h1
    subst this
    simpa using h2
theorem getP_none {P : Pcs} {k : Int} (h : hasP P k = false) : getP P k = 0 := by
  unfold hasP at h
  unfold getP
  have : P.find? (fun p => p.1 == k) = none := by
    rw [List.find?_eq_none]
    intro p hp
    simp only [List.any_eq_false] at h
    exact h p hp
  rw [this]; rfl
theorem getP_range {n : Nat} {P : Pcs} (h : Okp n P) (k : Int) : 0 ≤ getP P k ∧ getP P k ≤ n := by
  cases hk : hasP P k with
  | true => have := h _ (getP_mem hk); simp only at this; omega
  | false => rw [getP_none hk]; omega

/-- The piece that begins nearest ahead: does it reach so far? -/
def seek (P : Pcs) (o : Int) : Nat → Bool
  | 0 => false
  | j + 1 => if hasP P (112 + 8 * ((j + 1 : Nat) : Int)) then decide (o < 112 + 8 * ((j + 1 : Nat) : Int) - 8 + getP P (112 + 8 * ((j + 1 : Nat) : Int))) else seek P o j
def hasWd (n : Nat) (P : Pcs) (o : Int) : Bool := decide (0 ≤ o ∧ o % 4 = 0 ∧ o < n) && seek P o (o / 8 - 14).toNat

set_option maxRecDepth 100000 in
set_option maxHeartbeats 2000000 in
theorem hasWd_any (w : World) (hb rb mb pb n : Nat) (g : Mem) (c : Int) (P : Pcs) (o : Int) (h : Hp w hb rb mb pb n g c P) (hP : Okp n P) (h0 : -9223372036854775808 ≤ o) (h1 : o ≤ 9223372036854775807) :
    Calls Tryz.prog 48 #[.pointer (some ⟨hb, 0, none⟩), .int .i64 o] w fun e w' => e = .returned (.bool (hasWd n P o)) ∧ Kp w w' [] := by
  obtain ⟨B, hB⟩ : ∃ B, hasWd n P o = B := ⟨_, rfl⟩
  rw [hB]
  have q0 := h.c0cell
  have q1 := h.c1cell
  have hn := h.nb
  have H := hid h
  have HP := hid hP
  have SZ := hid (h.sized)
  clear h hP
  by_cases hneg : o < 0
  · have hb : B = false := by rw [← hB]; unfold hasWd; rw [decide_eq_false (by omega)]; rfl
    subst hb
    clear hB
    have ht8 : -8 < o.tmod 8 ∧ o.tmod 8 ≤ 0 := by
      obtain ⟨p, hp⟩ : ∃ p, o = -p := ⟨-o, by omega⟩
      subst hp
      rw [Int.neg_tmod, Int.tmod_eq_emod_of_nonneg (by omega)]
      omega
    by_cases h4 : (o.tmod 4 != 0) = true
    · go_enter Tryz.func48, Tryz.ntmps48
      go_wp2_with fail
      go_ret
      exact ⟨rfl, Kp.refl _ _⟩
    · have h4' : (o.tmod 4 != 0) = false := by simpa using h4
      clear h4
      go_enter Tryz.func48, Tryz.ntmps48
      go_wp2_with fail
      refine SZ.out.mono ?_
      rintro e w' ⟨rfl, hE⟩
      rw [hE]
      clear hE
      go_wp2_with fail
      refine wp_loop_rounds 1 ?_
      rw [rounds_succ]
      go_wp2_with fail
      go_ret
      exact ⟨rfl, Kp.refl _ _⟩
  · by_cases h4 : o % 4 = 0
    · have h4' : (o % 4 != 0) = false := by simp [h4]
      by_cases hon : o < n
      · have hb : B = seek P o (o / 8 - 14).toNat := by rw [← hB]; unfold hasWd; rw [decide_eq_true (by omega)]; rfl
        clear hB h4
        by_cases h112 : o / 8 ≤ 14
        · have hb' : B = false := by rw [hb, show (o / 8 - 14).toNat = 0 by omega]; rfl
          subst hb'
          clear hb
          go_enter Tryz.func48, Tryz.ntmps48
          go_wp2_with fail
          refine SZ.out.mono ?_
          rintro e w' ⟨rfl, hE⟩
          rw [hE]
          clear hE
          go_wp2_with fail
          refine wp_loop_rounds 1 ?_
          rw [rounds_succ]
          go_wp2_with fail
          go_ret
          exact ⟨rfl, Kp.refl _ _⟩
        · obtain ⟨k, hk⟩ : ∃ k : Nat, k = (o / 8 - 14).toNat := ⟨_, rfl⟩
          rw [← hk] at hb
          have HB := hid hb
          have hat : o - o % 8 = 112 + 8 * (k : Int) := by omega
          have hkb : k ≤ 8192 := by omega
          clear hb hk
          go_enter Tryz.func48, Tryz.ntmps48
          go_wp2_with fail
          refine SZ.out.mono ?_
          rintro e w' ⟨rfl, hE⟩
          rw [hE]
          clear hE
          go_wp2_with fail
          clear hat
          go_loop [5] (fun t => ∃ j : Nat, t = .int .i64 (112 + 8 * (j : Int)) ∧ j ≤ 8192 ∧ Hid (B = seek P o j)) (fun t => (intOf t).toNat)
          case atStart => exact ⟨k, rfl, by omega, HB.out⟩
          case round =>
            obtain ⟨j, rfl, hj, hrel⟩ := hrel
            cases j with
            | zero =>
              have e := hid (show B = false from hrel.out)
              clear hrel
              go_wp2_with fail
              go_ret
              rw [e.out]
              exact ⟨rfl, Kp.refl _ _⟩
            | succ j =>
              obtain ⟨A, hA⟩ : ∃ A : Int, 112 + 8 * ((j + 1 : Nat) : Int) = A := ⟨_, rfl⟩
              have hA0 : 112 < A ∧ A ≤ 66000 := by omega
              have lk := H.out.mp.look (k := A) (by omega) (by omega)
              have gr := getP_range HP.out A
              have e0 := hrel.out
              unfold seek at e0
              rw [hA] at e0 ⊢
              obtain ⟨V, hV⟩ : ∃ V, getP P A = V := ⟨_, rfl⟩
              rw [hV] at lk gr e0
              have HA := hid hA
              cases hG : hasP P A with
              | true =>
                rw [hG] at lk e0
                have E := hid (show B = decide (o < A - 8 + V) from e0)
                clear e0 hrel hA hG hV
                go_wp2_with fail
                go_ret
                rw [E.out]
                exact ⟨rfl, Kp.refl _ _⟩
              | false =>
                rw [hG] at lk e0
                have E := hid (show B = seek P o j from e0)
                clear e0 hrel hA hG hV
                go_wp2_with fail
                go_round
                case rel => exact ⟨j, congrArg (Value.int .i64) (by have := HA.out; omega), by omega, E.out⟩
                case measure => simp [intOf]; omega
      · have hb : B = false := by rw [← hB]; unfold hasWd; rw [decide_eq_false (by omega)]; rfl
        subst hb
        clear hB h4
        go_enter Tryz.func48, Tryz.ntmps48
        go_wp2_with fail
        refine SZ.out.mono ?_
        rintro e w' ⟨rfl, hE⟩
        rw [hE]
        clear hE
        go_wp2_with fail
        go_ret
        exact ⟨rfl, Kp.refl _ _⟩
    · have h4' : (o % 4 != 0) = true := by simp [h4]
      have hb : B = false := by rw [← hB]; unfold hasWd; rw [decide_eq_false (by omega)]; rfl
      subst hb
      clear hB h4
      go_enter Tryz.func48, Tryz.ntmps48
      go_wp2_with fail
      go_ret
      exact ⟨rfl, Kp.refl _ _⟩
end Go.Proofs.YtgefmnnkpffpcaaGreatDoor

/- blocks: the walk. -/
namespace Go.Proofs.YtgefmnnkpffpcaaGreatDoor
open Go.RowKit Go.Maps

def stepB (s : Int × List Bk) (p : Int × Int) : Int × List Bk := (p.1 - 8 + p.2, filled s.1 (p.1 - 8) s.2 ++ [(p.1 - 8, p.2, false)])
def bst (P : Pcs) : Int × List Bk := P.foldl stepB (112, [])
def blocksOf (n : Nat) (P : Pcs) : List Bk := filled (bst P).1 n (bst P).2
theorem bst_snoc (P : Pcs) (p : Int × Int) : bst (P ++ [p]) = stepB (bst P) p := by simp [bst, List.foldl_append]
theorem filled_length (gap e : Int) (l : List Bk) : (filled gap e l).length ≤ l.length + 1 := by
  unfold filled; split <;> simp
theorem bst_take {P : Pcs} {k : Nat} (h : k < P.length) : bst (P.take (k + 1)) = stepB (bst (P.take k)) P[k] := by
  rw [List.take_succ_eq_append_getElem h, bst_snoc]
theorem bst_bounds {n : Nat} {P : Pcs} (hP : Okp n P) : ∀ k, k ≤ P.length → 0 ≤ (bst (P.take k)).1 ∧ (bst (P.take k)).1 ≤ max n 112 ∧ (bst (P.take k)).2.length ≤ 2 * k
  | 0, _ => by simp [bst]; omega
  | k + 1, hk => by
    have ih := bst_bounds hP k (by omega)
    have hp := hP P[k] (List.getElem_mem (by omega))
    rw [bst_take (by omega)]
    unfold stepB
    have := filled_length (bst (P.take k)).1 (P[k].1 - 8) (bst (P.take k)).2
    simp only [List.length_append, List.length_cons, List.length_nil]
    omega

theorem Mp.look1 {w : World} {b : Nat} {P : Pcs} (h : Mp w b P) {k : Int} (h0 : -9223372036854775808 ≤ k) (h1 : k ≤ 9223372036854775807) :
    (Instr.lookup 65 (.map (some b)) (.int .i64 k) false).run Tryz.prog w = .ok (.int .i64 (getP P k)) w := by
  obtain ⟨c, hrun, hc, -⟩ := World.ownsMap.lookup_int h keyed3 Tryz.underlying65 Tryz.underlying3 (Tryz.zeroValue3 _) (keyOf_int_mk Tryz.underlying3 (wf64 h0 h1))
  rw [dat_at] at hc
  simp only [DataW.lit.injEq, Lit.int.injEq, true_and] at hc
  rw [hc]
  exact hrun
theorem getP_at {P : Pcs} (h : Rises P) {k : Nat} (hk : k < P.length) : getP P P[k].1 = P[k].2 := by
  have hm : hasP P P[k].1 = true := by
    unfold hasP; rw [List.any_eq_true]; exact ⟨P[k], List.getElem_mem hk, by simp⟩
  have h1 := getP_mem hm
  obtain ⟨j, hj, e⟩ := List.getElem_of_mem h1
  have hjk : j = k := by
    unfold Rises at h
    rw [List.pairwise_iff_getElem] at h
    rcases Nat.lt_trichotomy j k with hlt | heq | hgt
    · have := h j k hj hk hlt; rw [e] at this; simp at this
    · exact heq
    · have := h k j hk hj hgt; rw [e] at this; simp at this
  subst hjk
  rw [e]
end Go.Proofs.YtgefmnnkpffpcaaGreatDoor
