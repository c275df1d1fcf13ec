/- hasWord: is a word within a piece? -/
import Derived.Test.YtgefmnnkpffpcaaGreatDoorHpieceJ
namespace Go.Proofs.YtgefmnnkpffpcaaGreatDoor
open Go.RowKit Go.Maps

/-- Pieces that may be. -/
def Okp (n : Nat) (P : Pcs) : Prop := ∀ p ∈ P, 120 ≤ p.1 ∧ p.1 % 8 = 0 ∧ 16 ≤ p.2 ∧ p.2 % 8 = 0 ∧ p.1 - 8 + p.2 ≤ n
theorem getP_mem {P : Pcs} {k : Int} (h : hasP P k = true) : (k, getP P k) ∈ P := by
  unfold hasP at h
  unfold getP
  rw [List.any_eq_true] at h
  obtain ⟨p, hp, hk⟩ := h
  cases hf : P.find? (fun p => p.1 == k) with
  | none => rw [List.find?_eq_none] at hf; exact absurd hk (hf p hp)
  | some q =>
    have h1 := List.find?_some hf
    have h2 := List.mem_of_find?_eq_some hf
    have : q.1 = k := by simpa using h1
    subst this
    simpa using h2
theorem getP_none {P : Pcs} {k : Int} (h : hasP P k = false) : getP P k = 0 := by
  unfold hasP at h
  unfold getP
  have : P.find? (fun p => p.1 == k) = none := by
    rw [List.find?_eq_none]
    intro p hp
    simp only [List.any_eq_false] at h
    exact h p hp
  rw [this]; rfl
theorem getP_range {n : Nat} {P : Pcs} (h : Okp n P) (k : Int) : 0 ≤ getP P k ∧ getP P k ≤ n := by
  cases hk : hasP P k with
  | true => have := h _ (getP_mem hk); simp only at this; omega
  | false => rw [getP_none hk]; omega

/-- The piece that begins nearest ahead: does it reach so far? -/
def seek (P : Pcs) (o : Int) : Nat → Bool
  | 0 => false
  | j + 1 => if hasP P (112 + 8 * ((j + 1 : Nat) : Int)) then decide (o < 112 + 8 * ((j + 1 : Nat) : Int) - 8 + getP P (112 + 8 * ((j + 1 : Nat) : Int))) else seek P o j
def hasWd (n : Nat) (P : Pcs) (o : Int) : Bool := decide (0 ≤ o ∧ o % 4 = 0 ∧ o < n) && seek P o (o / 8 - 14).toNat

set_option maxRecDepth 100000 in
set_option maxHeartbeats 2000000 in
theorem hasWd_any (w : World) (hb rb mb pb n : Nat) (g : Mem) (c : Int) (P : Pcs) (o : Int) (h : Hp w hb rb mb pb n g c P) (hP : Okp n P) (h0 : -9223372036854775808 ≤ o) (h1 : o ≤ 9223372036854775807) :
    Calls Tryz.prog 48 #[.pointer (some ⟨hb, 0, none⟩), .int .i64 o] w fun e w' => e = .returned (.bool (hasWd n P o)) ∧ Kp w w' [] := by
  obtain ⟨B, hB⟩ : ∃ B, hasWd n P o = B := ⟨_, rfl⟩
  rw [hB]
  have q0 := h.c0cell
  have q1 := h.c1cell
  have hn := h.nb
  have H := hid h
  have HP := hid hP
  have SZ := hid (h.sized)
  clear h hP
  by_cases hneg : o < 0
  · have hb : B = false := by rw [← hB]; unfold hasWd; rw [decide_eq_false (by omega)]; rfl
    subst hb
    clear hB
    have ht8 : -8 < o.tmod 8 ∧ o.tmod 8 ≤ 0 := by
      obtain ⟨p, hp⟩ : ∃ p, o = -p := ⟨-o, by omega⟩
      subst hp
      rw [Int.neg_tmod, Int.tmod_eq_emod_of_nonneg (by omega)]
      omega
    by_cases h4 : (o.tmod 4 != 0) = true
    · go_enter Tryz.func48, Tryz.ntmps48
      go_wp2_with fail
      go_ret
      exact ⟨rfl, Kp.refl _ _⟩
    · have h4' : (o.tmod 4 != 0) = false := by simpa using h4
      clear h4
      go_enter Tryz.func48, Tryz.ntmps48
      go_wp2_with fail
      refine SZ.out.mono ?_
      rintro e w' ⟨rfl, hE⟩
      rw [hE]
      clear hE
      go_wp2_with fail
      refine wp_loop_rounds 1 ?_
      rw [rounds_succ]
      go_wp2_with fail
      go_ret
      exact ⟨rfl, Kp.refl _ _⟩
  · by_cases h4 : o % 4 = 0
    · have h4' : (o % 4 != 0) = false := by simp [h4]
      by_cases hon : o < n
      · have hb : B = seek P o (o / 8 - 14).toNat := by rw [← hB]; unfold hasWd; rw [decide_eq_true (by omega)]; rfl
        clear hB h4
        by_cases h112 : o / 8 ≤ 14
        · have hb' : B = false := by rw [hb, show (o / 8 - 14).toNat = 0 by omega]; rfl
          subst hb'
          clear hb
          go_enter Tryz.func48, Tryz.ntmps48
          go_wp2_with fail
          refine SZ.out.mono ?_
          rintro e w' ⟨rfl, hE⟩
          rw [hE]
          clear hE
          go_wp2_with fail
          refine wp_loop_rounds 1 ?_
          rw [rounds_succ]
          go_wp2_with fail
          go_ret
          exact ⟨rfl, Kp.refl _ _⟩
        · obtain ⟨k, hk⟩ : ∃ k : Nat, k = (o / 8 - 14).toNat := ⟨_, rfl⟩
          rw [← hk] at hb
          have HB := hid hb
          have hat : o - o % 8 = 112 + 8 * (k : Int) := by omega
          have hkb : k ≤ 8192 := by omega
          clear hb hk
          go_enter Tryz.func48, Tryz.ntmps48
          go_wp2_with fail
          refine SZ.out.mono ?_
          rintro e w' ⟨rfl, hE⟩
          rw [hE]
          clear hE
          go_wp2_with fail
          clear hat
          go_loop [5] (fun t => ∃ j : Nat, t = .int .i64 (112 + 8 * (j : Int)) ∧ j ≤ 8192 ∧ Hid (B = seek P o j)) (fun t => (intOf t).toNat)
          case atStart => exact ⟨k, rfl, by omega, HB.out⟩
          case round =>
            obtain ⟨j, rfl, hj, hrel⟩ := hrel
            cases j with
            | zero =>
              have e := hid (show B = false from hrel.out)
              clear hrel
              go_wp2_with fail
              go_ret
              rw [e.out]
              exact ⟨rfl, Kp.refl _ _⟩
            | succ j =>
              obtain ⟨A, hA⟩ : ∃ A : Int, 112 + 8 * ((j + 1 : Nat) : Int) = A := ⟨_, rfl⟩
              have hA0 : 112 < A ∧ A ≤ 66000 := by omega
              have lk := H.out.mp.look (k := A) (by omega) (by omega)
              have gr := getP_range HP.out A
              have e0 := hrel.out
              unfold seek at e0
              rw [hA] at e0 ⊢
              obtain ⟨V, hV⟩ : ∃ V, getP P A = V := ⟨_, rfl⟩
              rw [hV] at lk gr e0
              have HA := hid hA
              cases hG : hasP P A with
              | true =>
                rw [hG] at lk e0
                have E := hid (show B = decide (o < A - 8 + V) from e0)
                clear e0 hrel hA hG hV
                go_wp2_with fail
                go_ret
                rw [E.out]
                exact ⟨rfl, Kp.refl _ _⟩
              | false =>
                rw [hG] at lk e0
                have E := hid (show B = seek P o j from e0)
                clear e0 hrel hA hG hV
                go_wp2_with fail
                go_round
                case rel => exact ⟨j, congrArg (Value.int .i64) (by have := HA.out; omega), by omega, E.out⟩
                case measure => simp [intOf]; omega
      · have hb : B = false := by rw [← hB]; unfold hasWd; rw [decide_eq_false (by omega)]; rfl
        subst hb
        clear hB h4
        go_enter Tryz.func48, Tryz.ntmps48
        go_wp2_with fail
        refine SZ.out.mono ?_
        rintro e w' ⟨rfl, hE⟩
        rw [hE]
        clear hE
        go_wp2_with fail
        go_ret
        exact ⟨rfl, Kp.refl _ _⟩
    · have h4' : (o % 4 != 0) = true := by simp [h4]
      have hb : B = false := by rw [← hB]; unfold hasWd; rw [decide_eq_false (by omega)]; rfl
      subst hb
      clear hB h4
      go_enter Tryz.func48, Tryz.ntmps48
      go_wp2_with fail
      go_ret
      exact ⟨rfl, Kp.refl _ _⟩
end Go.Proofs.YtgefmnnkpffpcaaGreatDoor

/- Get and Set of a heap. -/
namespace Go.Proofs.YtgefmnnkpffpcaaGreatDoor
open Go.RowKit Go.Maps

theorem seek_true {n : Nat} {P : Pcs} {o : Int} (hP : Okp n P) : ∀ {j : Nat}, seek P o j = true → ∃ A, hasP P A = true ∧ o < A - 8 + getP P A ∧ A - 8 + getP P A ≤ n ∧ (A - 8 + getP P A) % 8 = 0
  | 0, h => by simp [seek] at h
  | j + 1, h => by
    unfold seek at h
    by_cases hA : hasP P (112 + 8 * ((j + 1 : Nat) : Int)) = true
    · rw [if_pos hA] at h
      have h1 := of_decide_eq_true h
      have h2 := hP _ (getP_mem hA)
      simp only at h2
      exact ⟨_, hA, h1, h2.2.2.2.2, by omega⟩
    · rw [if_neg hA] at h
      exact seek_true hP h
theorem hasWd_hasW {n : Nat} {P : Pcs} {o : Int} (hP : Okp n P) (h : hasWd n P o = true) : hasW n o = true := by
  unfold hasWd at h
  simp only [Bool.and_eq_true] at h
  have h1 := of_decide_eq_true h.1
  obtain ⟨A, -, a1, a2, a3⟩ := seek_true hP h.2
  exact decide_eq_true ⟨h1.1, h1.2.1, by omega⟩

set_option maxRecDepth 100000 in
theorem enters70 : ∀ args w, (callFunc 70 args).run Tryz.prog w = .ok (.enter 70 args) w := enters_of Tryz.func70 (by kernel_rfl) rfl
set_option maxRecDepth 100000 in
theorem enters47 : ∀ args w, (callFunc 47 args).run Tryz.prog w = .ok (.enter 47 args) w := enters_of Tryz.func47 (by kernel_rfl) rfl

set_option maxRecDepth 100000 in
theorem hset1 (w : World) (p0 p1 hb rb mb pb n : Nat) (g : Mem) (c : Int) (P : Pcs) (o : Int) (h : Hp w hb rb mb pb n g c P) (hP : Okp n P) (h0 : -9223372036854775808 ≤ o) (h1 : o ≤ 9223372036854775807)
    (q0 : w.cell? ⟨p0, 0, none⟩ = some (.pointer (some ⟨hb, 0, none⟩))) (q1 : w.cell? ⟨p1, 0, none⟩ = some (.int .i64 o)) :
    Calls Tryz.prog 70 #[.pointer (some ⟨p0, 0, none⟩), .pointer (some ⟨p1, 0, none⟩)] w fun e w' => e = .returned (.bool (hasWd n P o)) ∧ Kp w w' [] := by
  go_enter Tryz.func70, Tryz.ntmps70
  go_wp2_with fail
  refine (hasWd_any w hb rb mb pb n g c P o h hP h0 h1).mono ?_
  rintro e w1 ⟨rfl, hK⟩
  go_wp2
  go_ret
  exact ⟨rfl, hK⟩
set_option maxRecDepth 100000 in
theorem hget1 (w : World) (p0 p1 hb rb mb pb n : Nat) (g : Mem) (c : Int) (P : Pcs) (o : Int) (h : Hp w hb rb mb pb n g c P) (hP : Okp n P) (h0 : -9223372036854775808 ≤ o) (h1 : o ≤ 9223372036854775807)
    (q0 : w.cell? ⟨p0, 0, none⟩ = some (.pointer (some ⟨hb, 0, none⟩))) (q1 : w.cell? ⟨p1, 0, none⟩ = some (.int .i64 o)) :
    Calls Tryz.prog 47 #[.pointer (some ⟨p0, 0, none⟩), .pointer (some ⟨p1, 0, none⟩)] w fun e w' => e = .returned (.bool (hasWd n P o)) ∧ Kp w w' [] := by
  go_enter Tryz.func47, Tryz.ntmps47
  go_wp2_with fail
  refine (hasWd_any w hb rb mb pb n g c P o h hP h0 h1).mono ?_
  rintro e w1 ⟨rfl, hK⟩
  go_wp2
  go_ret
  exact ⟨rfl, hK⟩

set_option maxRecDepth 100000 in
theorem hset_no (w : World) (hb rb mb pb n : Nat) (g : Mem) (c : Int) (P : Pcs) (o x : Int) (h : Hp w hb rb mb pb n g c P) (hP : Okp n P) (h0 : -9223372036854775808 ≤ o) (h1 : o ≤ 9223372036854775807) (hw : hasWd n P o = false) :
    Calls Tryz.prog 27 #[.pointer (some ⟨hb, 0, none⟩), .int .i64 o, .int .u32 x] w fun e w' => e = .returned (.int .i64 2) ∧ Kp w w' [] := by
  have A1 := hid ((Kp.alloc w (.cells #[.pointer (some ⟨hb, 0, none⟩)] 23) []).trans (Kp.alloc _ (.cells #[.int .i64 o] 3) []))
  have H1 := hid (h.same A1.out)
  have HW := hid hw
  have HP := hid hP
  clear h hw hP
  go_enter Tryz.func27, Tryz.ntmps27
  go_wp2_with fail
  refine (refusal_any _ hb rb mb pb n 70 _ g c P (hasWd n P o) H1.out enters70 (hset1 _ _ _ hb rb mb pb n g c P o H1.out HP.out h0 h1 (cell_past cell_new0) cell_new1)).mono ?_
  rintro e w1 ⟨rfl, hK1⟩
  rw [HW.out]
  have K1 := hid (A1.out.trans hK1)
  clear hK1
  go_wp2
  go_ret
  exact ⟨rfl, K1.out⟩
set_option maxRecDepth 100000 in
theorem hget_no (w : World) (hb rb mb pb n : Nat) (g : Mem) (c : Int) (P : Pcs) (o : Int) (h : Hp w hb rb mb pb n g c P) (hP : Okp n P) (h0 : -9223372036854775808 ≤ o) (h1 : o ≤ 9223372036854775807) (hw : hasWd n P o = false) :
    Calls Tryz.prog 12 #[.pointer (some ⟨hb, 0, none⟩), .int .i64 o] w fun e w' => e = .returned (.tuple #[.int .u32 0, .int .i64 2]) ∧ Kp w w' [] := by
  have A1 := hid ((Kp.alloc w (.cells #[.pointer (some ⟨hb, 0, none⟩)] 23) []).trans (Kp.alloc _ (.cells #[.int .i64 o] 3) []))
  have H1 := hid (h.same A1.out)
  have HW := hid hw
  have HP := hid hP
  clear h hw hP
  go_enter Tryz.func12, Tryz.ntmps12
  go_wp2_with fail
  refine (refusal_any _ hb rb mb pb n 47 _ g c P (hasWd n P o) H1.out enters47 (hget1 _ _ _ hb rb mb pb n g c P o H1.out HP.out h0 h1 (cell_past cell_new0) cell_new1)).mono ?_
  rintro e w1 ⟨rfl, hK1⟩
  rw [HW.out]
  have K1 := hid (A1.out.trans hK1)
  clear hK1
  go_wp2
  go_ret2
  exact ⟨rfl, K1.out⟩

set_option maxRecDepth 100000 in
set_option maxHeartbeats 1000000 in
theorem hset_ok (w : World) (hb rb mb pb n : Nat) (g : Mem) (c : Int) (P : Pcs) (o x : Int) (h : Hp w hb rb mb pb n g c P) (hc : c < 1152921504606830000) (hP : Okp n P) (hw : hasWd n P o = true) (hx0 : 0 ≤ x) (hx1 : x < 4294967296) :
    Calls Tryz.prog 27 #[.pointer (some ⟨hb, 0, none⟩), .int .i64 o, .int .u32 x] w fun e w' => e = .returned (.int .i64 0) ∧ Went w w' hb rb mb pb n (wr n g o x) P c 1 [rb, mb] := by
  have A1 := hid ((Kp.alloc w (.cells #[.pointer (some ⟨hb, 0, none⟩)] 23) []).trans (Kp.alloc _ (.cells #[.int .i64 o] 3) []))
  have H1 := hid (h.same A1.out)
  have HW := hid hw
  have HP := hid hP
  have hlt := h.lt
  have hn := h.nb
  have h2 := of_decide_eq_true (hasWd_hasW hP hw)
  have R := hid (show wr n g o x = upd g o.toNat x by unfold wr; rw [if_pos (hasWd_hasW hP hw)])
  obtain ⟨o', rfl⟩ := Int.eq_ofNat_of_zero_le h2.1
  have ho := hid h2.2.1
  have hon : (o' : Int) + 4 ≤ n := by omega
  have hcc := h.c0
  clear h hw hP h2
  go_enter Tryz.func27, Tryz.ntmps27
  go_wp2_with fail
  refine (refusal_any _ hb rb mb pb n 70 _ g c P (hasWd n P o') H1.out enters70 (hset1 _ _ _ hb rb mb pb n g c P o' H1.out HP.out (by omega) (by omega) (cell_past cell_new0) cell_new1)).mono ?_
  rintro e w1 ⟨rfl, hK1⟩
  rw [HW.out]
  have K1 := hid (A1.out.trans hK1)
  have H2 := hid (H1.out.same hK1)
  have Q := hid (And.intro (hK1.cell (cell_past (o := .cells #[.int .i64 (o' : Int)] 3) (cell_new0 (w := w) (v := .pointer (some ⟨hb, 0, none⟩)) (t := 23))) (by simp)) (hK1.cell (cell_new1 (w := w) (v := .int .i64 (o' : Int)) (t := 3) (o1 := .cells #[.pointer (some ⟨hb, 0, none⟩)] 23)) (by simp)))
  clear hK1
  obtain ⟨f, ha, hg⟩ := H2.out.aw
  have HA := hid ha
  have HG := hid hg
  clear ha hg
  go_wp2_with fail
  have S2 := hid (show ∀ W, Kp w1 W [rb, mb] → W.cell? ⟨w.heap.size, 0, none⟩ = some (.pointer (some ⟨hb, 0, none⟩)) ∧ W.cell? ⟨w.heap.size + 1, 0, none⟩ = some (.int .i64 (o' : Int)) ∧ W.cell? ⟨hb, 0, none⟩ = some (.pointer (some ⟨rb, 0, none⟩)) from
    fun W hW => ⟨hW.cell Q.out.1 (by simp; omega), hW.cell Q.out.2 (by simp; omega), hW.cell H2.out.c0cell (by simp; have := H2.out.ne; omega)⟩)
  go_region_held (fun w' => w'.cell? ⟨w.heap.size, 0, none⟩ = some (.pointer (some ⟨hb, 0, none⟩)) ∧ w'.cell? ⟨w.heap.size + 1, 0, none⟩ = some (.int .i64 (o' : Int)) ∧ w'.cell? ⟨hb, 0, none⟩ = some (.pointer (some ⟨rb, 0, none⟩)))
    (first
      | exact S2.out _ (Kp.drew _ _)
      | exact S2.out _ ((Kp.drew _ _).trans hK3))
    ((go_at_call 71; refine (set_ok _ rb mb n o' f c x (HA.out.keep (Kp.drew _ []) (by simp) (by simp)) (by omega) hcc (by omega) hx0 hx1 (by have := ho.out; omega) (by omega)).mono ?_; rintro e w3 ⟨rfl, hA3, hK3⟩))
  have KK := hid (show Kp w w3 [rb, mb] from K1.out.nil.trans ((Kp.drew _ _).trans hK3))
  have A3 := hid hA3
  have K3 := hid (show Kp w1 w3 [rb, mb] from (Kp.drew _ _).trans hK3)
  clear hA3 hK3
  go_wp2
  go_ret
  refine ⟨rfl, c + 1, by omega, by omega, H2.out.turn K3.out ⟨_, A3.out, ?_⟩ (by omega), KK.out⟩
  rw [R.out]
  exact upd_words HG.out (by have := ho.out; omega)

set_option maxRecDepth 100000 in
set_option maxHeartbeats 1000000 in
theorem hget_ok (w : World) (hb rb mb pb n : Nat) (g : Mem) (c : Int) (P : Pcs) (o : Int) (h : Hp w hb rb mb pb n g c P) (hc : c < 1152921504606830000) (hP : Okp n P) (hw : hasWd n P o = true) :
    Calls Tryz.prog 12 #[.pointer (some ⟨hb, 0, none⟩), .int .i64 o] w fun e w' => e = .returned (.tuple #[.int .u32 (rd n g o), .int .i64 0]) ∧ Went w w' hb rb mb pb n g P c 1 [rb] := by
  have A1 := hid ((Kp.alloc w (.cells #[.pointer (some ⟨hb, 0, none⟩)] 23) []).trans (Kp.alloc _ (.cells #[.int .i64 o] 3) []))
  have H1 := hid (h.same A1.out)
  have HW := hid hw
  have HP := hid hP
  have hlt := h.lt
  have hn := h.nb
  have h2 := of_decide_eq_true (hasWd_hasW hP hw)
  have R := hid (show rd n g o = g o.toNat by unfold rd; rw [if_pos (hasWd_hasW hP hw)])
  obtain ⟨o', rfl⟩ := Int.eq_ofNat_of_zero_le h2.1
  have ho := hid h2.2.1
  have hon : (o' : Int) + 4 ≤ n := by omega
  have hcc := h.c0
  clear h hw hP h2
  rw [R.out]
  obtain ⟨v, hv⟩ : ∃ v, g (o' : Int).toNat = v := ⟨_, rfl⟩
  rw [hv]
  have HV := hid hv
  clear hv
  go_enter Tryz.func12, Tryz.ntmps12
  go_wp2_with fail
  refine (refusal_any _ hb rb mb pb n 47 _ g c P (hasWd n P o') H1.out enters47 (hget1 _ _ _ hb rb mb pb n g c P o' H1.out HP.out (by omega) (by omega) (cell_past cell_new0) cell_new1)).mono ?_
  rintro e w1 ⟨rfl, hK1⟩
  rw [HW.out]
  have K1 := hid (A1.out.trans hK1)
  have H2 := hid (H1.out.same hK1)
  have Q := hid (And.intro (hK1.cell (cell_past (o := .cells #[.int .i64 (o' : Int)] 3) (cell_new0 (w := w) (v := .pointer (some ⟨hb, 0, none⟩)) (t := 23))) (by simp)) (hK1.cell (cell_new1 (w := w) (v := .int .i64 (o' : Int)) (t := 3) (o1 := .cells #[.pointer (some ⟨hb, 0, none⟩)] 23)) (by simp)))
  clear hK1
  obtain ⟨f, ha, hg⟩ := H2.out.aw
  have HA := hid ha
  have HG := hid hg
  have HF := hid (show wordAt f o' = v by rw [hg o' (by have := ho.out; omega) (by omega)]; exact HV.out)
  clear ha hg
  go_wp2_with fail
  have S2 := hid (show ∀ W, Kp w1 W [rb, mb] → W.cell? ⟨w.heap.size, 0, none⟩ = some (.pointer (some ⟨hb, 0, none⟩)) ∧ W.cell? ⟨w.heap.size + 1, 0, none⟩ = some (.int .i64 (o' : Int)) ∧ W.cell? ⟨hb, 0, none⟩ = some (.pointer (some ⟨rb, 0, none⟩)) from
    fun W hW => ⟨hW.cell Q.out.1 (by simp; omega), hW.cell Q.out.2 (by simp; omega), hW.cell H2.out.c0cell (by simp; have := H2.out.ne; omega)⟩)
  go_region_held (fun w' => w'.cell? ⟨w.heap.size, 0, none⟩ = some (.pointer (some ⟨hb, 0, none⟩)) ∧ w'.cell? ⟨w.heap.size + 1, 0, none⟩ = some (.int .i64 (o' : Int)) ∧ w'.cell? ⟨hb, 0, none⟩ = some (.pointer (some ⟨rb, 0, none⟩)))
    (first
      | exact S2.out _ (Kp.drew _ _)
      | exact S2.out _ ((Kp.drew _ _).trans (hK3.mono (by simp))))
    ((go_at_call 49; refine (get_ok _ rb mb n o' f c (HA.out.keep (Kp.drew _ []) (by simp) (by simp)) (by omega) hcc (by omega) (by have := ho.out; omega) (by omega)).mono ?_; rintro e w3 ⟨rfl, hA3, hK3⟩))
  rw [HF.out]
  have KK := hid (show Kp w w3 [rb] from K1.out.nil.trans ((Kp.drew _ _).trans hK3))
  have A3 := hid hA3
  have K3 := hid (show Kp w1 w3 [rb, mb] from (Kp.drew _ _).trans (hK3.mono (by simp)))
  clear hA3 hK3
  go_wp2
  go_ret2
  exact ⟨rfl, c + 1, by omega, by omega, H2.out.turn K3.out ⟨_, A3.out, HG.out⟩ (by omega), KK.out⟩
end Go.Proofs.YtgefmnnkpffpcaaGreatDoor
