/- The reference: Parse. -/
import Derived.Test.YtojdahgoapknjaaDoorRtext
import Derived.Test.YtojdahgoapknjaaDoorParseNo
namespace Go.Proofs.YtojdahgoapknjaaDoor
open Go.RowKit Go.Shelf
set_option linter.unusedVariables false

/-- What bytes tell as digits, whatever they are. -/
def valI (l : List UInt8) : Int := l.foldl (fun v c => v * 10 + ((c.toNat : Int) - 48)) 0
theorem val_snoc (l : List UInt8) (c : UInt8) : valI (l ++ [c]) = valI l * 10 + ((c.toNat : Int) - 48) := by
  unfold valI; rw [List.foldl_append]; rfl
theorem val_bd : ∀ (k : Nat) (l : List UInt8), l.length ≤ k → -(23 * (10 ^ k - 1)) ≤ valI l ∧ valI l ≤ 23 * (10 ^ k - 1) := by
  intro k
  induction k with
  | zero =>
    intro l h
    have : l = [] := List.length_eq_zero_iff.1 (by omega)
    subst this
    simp [valI]
  | succ k ih =>
    intro l h
    rcases List.eq_nil_or_concat l with rfl | ⟨l', c, rfl⟩
    · have h1 := ih [] (by simp)
      have h2 : (10 : Int) ^ (k + 1) = 10 ^ k * 10 := Int.pow_succ 10 k
      have h3 : valI [] = 0 := rfl
      rw [h3] at h1 ⊢
      omega
    · rw [List.concat_eq_append] at *
      rw [val_snoc]
      have h1 := ih l' (by simp at h; omega)
      have h2 : (10 : Int) ^ (k + 1) = 10 ^ k * 10 := Int.pow_succ 10 k
      have h3 : (0 : Int) < 10 ^ k := Int.pow_pos (by decide)
      have h4 : c.toNat < 256 := c.toNat_lt
      omega

def rS (t : List UInt8) : Int := valI (t.take (t.length - 10))
def rN (t : List UInt8) : Int := valI (t.drop (t.length - 10 + 1))
def rparseP (t : List UInt8) : Int × Int × Int := if 11 ≤ t.length ∧ t.length ≤ 20 ∧ may (rS t) (rN t) = true ∧ txt (rS t) (rN t) = t then (rS t, rN t, 0) else (0, 0, 4)

set_option maxRecDepth 100000 in
set_option maxHeartbeats 4000000 in
theorem rparse_no (w : World) (t : List UInt8) (ht : t.length ≤ 9000) (hl : t.length < 11 ∨ 20 < t.length) : Calls Tryd.prog 26 #[.string ⟨t.toArray⟩] w fun x w' => x = .returned noE ∧ Kp w w' [] := by
  obtain ⟨p1, p2, k⟩ := bx2 w 0 0 0 0
  have x0 := p2.c0
  have x1 := p2.c1
  have x2 := p1.f0
  have x3 := p1.f1
  have x4 := p1.c0
  have x5 := p1.c1
  have P1 := hid p1
  have KK := hid k
  clear p1 p2 k
  rcases hl with hl | hl
  · have h1 : (t.length : Int) - 10 < 1 := by omega
    have h2 : decide ((t.length : Int) - 10 < 1) = true := by simp; omega
    go_enter Tryd.func26, Tryd.ntmps26
    go_wp2
    exact bodyPost_ret (v := spE (0, 0, 4)) (by simp [results, Tryd.results26, go_sem]) rfl ⟨rfl, KK.out⟩
  · have h1 : ¬ (t.length : Int) - 10 < 1 := by omega
    have h2 : decide ((t.length : Int) - 10 < 1) = false := by simp; omega
    have h3 : (10 : Int) < (t.length : Int) - 10 := by omega
    go_enter Tryd.func26, Tryd.ntmps26
    go_wp2
    exact bodyPost_ret (v := spE (0, 0, 4)) (by simp [results, Tryd.results26, go_sem]) rfl ⟨rfl, KK.out⟩

theorem str_eq (U t : List UInt8) : ((⟨U.toArray⟩ : ByteArray).toList == (⟨t.toArray⟩ : ByteArray).toList) = decide (U = t) := by
  rw [ByteArray.toList_eq, ByteArray.toList_eq, Bool.eq_iff_iff]
  simp
theorem neq_str (U t : List UInt8) (w : World) : (binOp .neq 9 (.string ⟨U.toArray⟩) (.string ⟨t.toArray⟩)).run Tryd.prog w = .ok (.bool (!decide (U = t))) w := by
  rw [binOp_string_neq, str_eq]; rfl
theorem eql_str (U t : List UInt8) (w : World) : (binOp .eql 9 (.string ⟨U.toArray⟩) (.string ⟨t.toArray⟩)).run Tryd.prog w = .ok (.bool (decide (U = t))) w := by
  rw [binOp_string_eql, str_eq]; rfl
/-- What the loop has told of the first i bytes. -/
def secI (t : List UInt8) (i : Nat) : Int := valI (t.take (min i (t.length - 10)))
def nsI (t : List UInt8) (i : Nat) : Int := valI ((t.take i).drop (t.length - 10 + 1))

theorem set0 {w : World} {p : Nat} {s n : Int} (h : Bx w p s n) (x : Int) : Bx (w.setCell ⟨p, 0, none⟩ (.int .i64 x)) p x n := by
  unfold Bx
  rw [heap_setCell_same w p 0 _ 23 _ h]; rfl
theorem set1 {w : World} {p : Nat} {s n : Int} (h : Bx w p s n) (x : Int) : Bx (w.setCell ⟨p, 1, none⟩ (.int .i64 x)) p s x := by
  unfold Bx
  rw [heap_setCell_same w p 1 _ 23 _ h]; rfl
theorem wr_byte (v : Int) (c : Nat) (hv : -23000000000 ≤ v ∧ v ≤ 23000000000) (hc : c < 256) : wrap64 (wrap64 (v * 10) + wrap64 (wrap64 (c : Int) - 48)) = v * 10 + ((c : Int) - 48) := by
  simp only [wrap64]
  omega
theorem sec_step {t : List UInt8} {i : Nat} (h : i < t.length) (ha : i < t.length - 10) : secI t (i + 1) = secI t i * 10 + ((t[i].toNat : Int) - 48) ∧ nsI t (i + 1) = nsI t i := by
  unfold secI nsI
  refine ⟨?_, ?_⟩
  · rw [show min (i + 1) (t.length - 10) = i + 1 by omega, show min i (t.length - 10) = i by omega, List.take_add_one, List.getElem?_eq_getElem h]
    exact val_snoc _ _
  · rw [List.drop_eq_nil_of_le (by rw [List.length_take]; omega), List.drop_eq_nil_of_le (by rw [List.length_take]; omega)]
theorem mid_step {t : List UInt8} {i : Nat} (h : i < t.length) (ha : i = t.length - 10) : secI t (i + 1) = secI t i ∧ nsI t (i + 1) = nsI t i := by
  unfold secI nsI
  refine ⟨?_, ?_⟩
  · rw [show min (i + 1) (t.length - 10) = min i (t.length - 10) by omega]
  · rw [List.drop_eq_nil_of_le (by rw [List.length_take]; omega), List.drop_eq_nil_of_le (by rw [List.length_take]; omega)]
theorem ns_step {t : List UInt8} {i : Nat} (h : i < t.length) (ha : t.length - 10 < i) : nsI t (i + 1) = nsI t i * 10 + ((t[i].toNat : Int) - 48) ∧ secI t (i + 1) = secI t i := by
  unfold secI nsI
  refine ⟨?_, ?_⟩
  · rw [List.take_add_one, List.getElem?_eq_getElem h, List.drop_append_of_le_length (by rw [List.length_take]; omega)]
    exact val_snoc _ _
  · rw [show min (i + 1) (t.length - 10) = min i (t.length - 10) by omega]
theorem sec_bd {t : List UInt8} {i : Nat} (h : i ≤ 9) : -23000000000 ≤ secI t i ∧ secI t i ≤ 23000000000 := by
  have := val_bd 9 (t.take (min i (t.length - 10))) (by rw [List.length_take]; omega)
  unfold secI
  omega
theorem ns_bd {t : List UInt8} {i : Nat} (h : i ≤ t.length) (h' : t.length ≤ 20) : -23000000000 ≤ nsI t i ∧ nsI t i ≤ 23000000000 := by
  have := val_bd 9 ((t.take i).drop (t.length - 10 + 1)) (by rw [List.length_drop, List.length_take]; omega)
  unfold nsI
  omega

set_option maxRecDepth 100000 in
set_option maxHeartbeats 4000000 in
theorem rparse_mid (w : World) (t : List UInt8) (h11 : 11 ≤ t.length) (h20 : t.length ≤ 20) : Calls Tryd.prog 26 #[.string ⟨t.toArray⟩] w fun x w' => x = .returned (spE (rparseP t)) ∧ Kp w w' [] := by
  obtain ⟨p1, p2, k⟩ := bx2 w 0 0 0 0
  have P1 := hid p1
  have P2 := hid p2
  have KK := hid k
  clear p1 p2 k
  have h1 : ¬ (t.length : Int) - 10 < 1 := by omega
  have h2 : decide ((t.length : Int) - 10 < 1) = false := by simp; omega
  have h3 : ¬ (10 : Int) < (t.length : Int) - 10 := by omega
  go_enter Tryd.func26, Tryd.ntmps26
  go_wp2
  obtain ⟨W0, hW0⟩ : ∃ W0, (w.alloc (ob 0 0)).alloc (ob 0 0) = W0 := ⟨_, rfl⟩
  rw [hW0] at P1 P2 KK
  simp only [hW0]
  clear hW0
  go_loopw [6] (fun vi W => ∃ i : Nat, i ≤ t.length ∧ vi = .int .i64 i ∧ Hid (Bx W (w.heap.size + 1) (secI t i) (nsI t i)) ∧ Hid (Kp W0 W [w.heap.size + 1])) (fun vi _ => t.length - (intOf vi).toNat)
  case atStart => exact ⟨0, Nat.zero_le _, rfl, hid (by simpa [secI, nsI, valI] using P2.out), Kp.refl _ _⟩
  case round =>
    obtain ⟨i, hi, rfl, hB, hK⟩ := hrel
    by_cases hlt : i < t.length
    · have hltI : (i : Int) < (t.length : Int) := by omega
      have y0 := hB.out.c0
      have y1 := hB.out.c1
      have y2 := hB.out.f0
      have y3 := hB.out.f1
      have HV := hid (fun (v : Int) (hv : -23000000000 ≤ v ∧ v ≤ 23000000000) => wr_byte v (t[i]).toNat hv (t[i]).toNat_lt)
      have HC : ((⟨t.toArray⟩ : ByteArray)[i]'(by show i < t.toArray.size; simpa using hlt)) = t[i] := rfl
      rcases (show i < t.length - 10 ∨ i = t.length - 10 ∨ t.length - 10 < i by omega) with ha | ha | ha
      · have ha1 : (i : Int) < (t.length : Int) - 10 := by omega
        have ha2 : ¬ (t.length : Int) - 10 < (i : Int) := by omega
        have HE := hid (sec_step hlt ha)
        have HB := hid (sec_bd (t := t) (i := i) (by omega))
        go_wp2
        refine ⟨⟨i + 1, by omega, by simp, ?_, hid (hK.out.trans (Kp.setCell _ _ _))⟩, by simp [intOf]; omega⟩
        have e := HV.out _ HB.out
        rw [← HE.out.1] at e
        rw [HE.out.2]
        exact hid (e ▸ set0 hB.out _)
      · have ha1 : ¬ (i : Int) < (t.length : Int) - 10 := by omega
        have ha2 : ¬ (t.length : Int) - 10 < (i : Int) := by omega
        have HE := hid (mid_step hlt ha)
        clear ha
        go_wp2
        refine ⟨⟨i + 1, by omega, by simp, ?_, hK⟩, by simp [intOf]; omega⟩
        rw [HE.out.1, HE.out.2]
        exact hB
      · have ha1 : ¬ (i : Int) < (t.length : Int) - 10 := by omega
        have ha2 : (t.length : Int) - 10 < (i : Int) := by omega
        have HE := hid (ns_step hlt ha)
        have HB := hid (ns_bd (t := t) (i := i) (by omega) (by omega))
        go_wp2
        refine ⟨⟨i + 1, by omega, by simp, ?_, hid (hK.out.trans (Kp.setCell _ _ _))⟩, by simp [intOf]; omega⟩
        have e := HV.out _ HB.out
        rw [← HE.out.1] at e
        rw [HE.out.2]
        exact hid (e ▸ set1 hB.out _)
    · have hie : i = t.length := by omega
      have hltI : ¬ (i : Int) < (t.length : Int) := by omega
      have hS : secI t i = rS t := by rw [hie]; unfold secI rS; rw [show min t.length (t.length - 10) = t.length - 10 by omega]
      have hR : nsI t i = rN t := by rw [hie]; unfold nsI rN; rw [List.take_length]
      rw [hS, hR] at hB
      have KW := hid (KK.out.past hK.out (by intro k hk hl; simp at hk; omega))
      have PR := hid (show Bx wr w.heap.size 0 0 from (hK.out.block w.heap.size (lt_of_block P1.out) (by simp)).trans P1.out)
      have RP := hid (show rparseP t = if may (rS t) (rN t) = true ∧ txt (rS t) (rN t) = t then (rS t, rN t, 0) else (0, 0, 4) by unfold rparseP; simp [h11, h20])
      obtain ⟨a, ha⟩ : ∃ a, rS t = a := ⟨_, rfl⟩
      obtain ⟨b, hb⟩ : ∃ b, rN t = b := ⟨_, rfl⟩
      rw [ha, hb] at hB RP
      have y0 := hB.out.c0
      have y1 := hB.out.c1
      have HI := hid hie
      clear hie hS hR ha hb hK
      cases hm : may a b with
      | false =>
        go_wp2_with fail
        refine (rmay_any _ a b).mono ?_
        rintro e v1 ⟨rfl, k1⟩
        rw [hm]
        have K1 := hid (KW.out.trans k1)
        have R1 := hid (PR.out.keep k1)
        clear k1 y0 y1
        have z0 := R1.out.c0
        have z1 := R1.out.c1
        have z2 := R1.out.f0
        have z3 := R1.out.f1
        go_wp2_with fail
        exact bodyPost_ret (v := spE (0, 0, 4)) (by simp [results, Tryd.results26, go_sem, (R1.out.set 0 0).c0, (R1.out.set 0 0).c1]) rfl ⟨by rw [RP.out, if_neg (by simp [hm])], K1.out.store2 (by omega) _ _⟩
      | true =>
        obtain ⟨a1, a2, b1, b2⟩ := may_iff.1 hm
        obtain ⟨A, rfl⟩ : ∃ A : Nat, a = A := ⟨a.toNat, by omega⟩
        obtain ⟨B, rfl⟩ : ∃ B : Nat, b = B := ⟨b.toNat, by omega⟩
        go_wp2_with fail
        refine (rmay_any _ _ _).mono ?_
        rintro e v1 ⟨rfl, k1⟩
        rw [hm]
        have K1 := hid (KW.out.trans k1)
        have R1 := hid (PR.out.keep k1)
        have S1 := hid (hB.out.keep k1)
        clear k1 y0 y1
        have y0 := S1.out.c0
        have y1 := S1.out.c1
        go_wp2_with fail
        refine (rtext_ok _ A B (by omega) (by omega)).mono ?_
        rintro e v2 ⟨rfl, k1⟩
        have K2 := hid (K1.out.trans k1)
        have R2 := hid (R1.out.keep k1)
        have S2 := hid (S1.out.keep k1)
        clear k1 y0 y1 K1 R1 S1
        have y0 := S2.out.c0
        have y1 := S2.out.c1
        have z0 := R2.out.c0
        have z1 := R2.out.c1
        have z2 := R2.out.f0
        have z3 := R2.out.f1
        obtain ⟨U, hU⟩ : ∃ U, txt (A : Int) (B : Int) = U := ⟨_, rfl⟩
        rw [hU]
        have HU := hid hU
        have cmp := str_eq U t
        have cmp2 : (U == t) = decide (U = t) := by rw [Bool.eq_iff_iff]; simp
        clear hU
        by_cases hx : U = t
        · rw [decide_eq_true hx] at cmp cmp2
          have HX := hid hx
          clear hx
          go_wp2_with fail
          exact bodyPost_ret (v := spE ((A : Int), (B : Int), 0)) (by simp [results, Tryd.results26, go_sem, (R2.out.set A B).c0, (R2.out.set A B).c1]) rfl ⟨by rw [RP.out, if_pos ⟨hm, HU.out.trans HX.out⟩], K2.out.store2 (by omega) _ _⟩
        · rw [decide_eq_false hx] at cmp cmp2
          have HX := hid hx
          clear hx
          go_wp2_with fail
          exact bodyPost_ret (v := spE (0, 0, 4)) (by simp [results, Tryd.results26, go_sem, (R2.out.set 0 0).c0, (R2.out.set 0 0).c1]) rfl ⟨by rw [RP.out, if_neg (fun h => HX.out (HU.out.symm.trans h.2))], K2.out.store2 (by omega) _ _⟩
end Go.Proofs.YtojdahgoapknjaaDoor
