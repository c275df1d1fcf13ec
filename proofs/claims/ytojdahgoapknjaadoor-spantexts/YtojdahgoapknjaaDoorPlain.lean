/- Texts and spans: plain facts. -/
import Derived.Test.YtojdahgoapknjaaDoorParse
import Derived.Test.YtojdahgoapknjaaDoorRparse
namespace Go.Proofs.YtojdahgoapknjaaDoor
open Go.RowKit Go.Shelf
set_option linter.unusedVariables false

theorem pre_dot (c : UInt8) (r : List UInt8) : ([46] : List UInt8).isPrefixOf (c :: r) = (46 == c) := by simp [List.isPrefixOf]
theorem cut_nil : cutF [] = [] ∧ cutB [] = [] := ⟨rfl, rfl⟩
theorem idx_dot (r : List UInt8) : Lib.index (46 :: r) [46] = 0 := by
  unfold Lib.index
  rw [if_pos (by rw [pre_dot]; rfl)]
theorem cut_at (r : List UInt8) : cutF (46 :: r) = [] ∧ cutB (46 :: r) = r := by
  unfold cutF cutB Lib.cut
  rw [idx_dot]
  simp
theorem idx_more {c : UInt8} (hc : c ≠ 46) (r : List UInt8) : Lib.index (c :: r) [46] = if Lib.index r [46] = -1 then -1 else Lib.index r [46] + 1 := by
  have h : ([46] : List UInt8).isPrefixOf (c :: r) = false := by rw [pre_dot]; simp; exact fun e => hc e.symm
  rw [Lib.index, if_neg (by rw [h]; decide)]
  simp
theorem cut_on {c : UInt8} (hc : c ≠ 46) (r : List UInt8) : cutF (c :: r) = c :: cutF r ∧ cutB (c :: r) = cutB r := by
  unfold cutF cutB Lib.cut
  rw [idx_more hc]
  rcases Lib.index_spec r [46] with ⟨h1, -⟩ | ⟨i, h1, -⟩
  · rw [h1]; simp
  · rw [h1, if_neg (show ¬ (i : Int) = -1 by omega)]
    have e1 : ((i : Int) + 1).toNat = i + 1 := by omega
    have e2 : ((i : Int)).toNat = i := by omega
    have e3 : (0 : Int) ≤ (i : Int) + 1 := by omega
    have e4 : (0 : Int) ≤ (i : Int) := by omega
    rw [if_pos e3, if_pos e4, e1, e2]
    simp
theorem cut_shape : ∀ (t : List UInt8), cutB t ≠ [] → t = cutF t ++ 46 :: cutB t
  | [], h => absurd rfl h
  | c :: r, h => by
    by_cases hc : c = 46
    · subst hc
      rw [(cut_at r).1, (cut_at r).2]; rfl
    · rw [(cut_on hc r).2] at h
      rw [(cut_on hc r).1, (cut_on hc r).2, List.cons_append, ← cut_shape r h]
theorem cut_of : ∀ (F B : List UInt8), (∀ c ∈ F, c ≠ 46) → cutF (F ++ 46 :: B) = F ∧ cutB (F ++ 46 :: B) = B
  | [], B, _ => cut_at B
  | c :: F, B, h => by
    have hi := cut_of F B (fun d hd => h d (by simp [hd]))
    have hc := cut_on (h c (by simp)) (F ++ 46 :: B)
    rw [List.cons_append, hc.1, hc.2, hi.1, hi.2]
    exact ⟨rfl, rfl⟩
/-- All digits. -/
def Dg (l : List UInt8) : Prop := ∀ c ∈ l, 48 ≤ c.toNat ∧ c.toNat ≤ 57
theorem Dg.snoc {l : List UInt8} {c : UInt8} : Dg (l ++ [c]) ↔ Dg l ∧ 48 ≤ c.toNat ∧ c.toNat ≤ 57 := by
  unfold Dg
  constructor
  · intro h; exact ⟨fun d hd => h d (by simp [hd]), h c (by simp)⟩
  · rintro ⟨h, hc⟩ d hd
    rcases List.mem_append.1 hd with h1 | h1
    · exact h d h1
    · rw [List.mem_singleton.1 h1]; exact hc
theorem snoc_ind {P : List UInt8 → Prop} (h0 : P []) (h1 : ∀ l c, P l → P (l ++ [c])) (l : List UInt8) : P l := by
  have : ∀ k (l : List UInt8), l.length = k → P l := by
    intro k
    induction k with
    | zero => intro l h; rw [List.length_eq_zero_iff.1 h]; exact h0
    | succ k ih =>
      intro l h
      rcases List.eq_nil_or_concat l with rfl | ⟨l', c, rfl⟩
      · exact h0
      · rw [List.concat_eq_append] at *
        exact h1 _ _ (ih l' (by simpa using h))
  exact this _ l rfl
theorem val_pos (l : List UInt8) (h : Dg l) : 0 ≤ valI l := by
  revert h
  refine snoc_ind (P := fun l => Dg l → 0 ≤ valI l) (fun _ => by simp [valI]) (fun l c ih h => ?_) l
  rw [val_snoc]
  have := ih (Dg.snoc.1 h).1
  have := (Dg.snoc.1 h).2
  omega
theorem ds_snoc (l : List UInt8) (c : UInt8) : ds (l ++ [c]) = ds l ++ [dig c.toNat] := by simp [ds]
theorem scan_iff (l : List UInt8) : ∀ a : Int, scan 0 (ds l) = some a ↔ Dg l ∧ valI l = a ∧ a ≤ 2147483647 := by
  refine snoc_ind (P := fun l => ∀ a : Int, scan 0 (ds l) = some a ↔ Dg l ∧ valI l = a ∧ a ≤ 2147483647) (fun a => ?_) (fun l c ih a => ?_) l
  · simp [ds, scan, valI, Dg]; omega
  · rw [ds_snoc, scan_app, val_snoc, Dg.snoc]
    cases hs : scan 0 (ds l) with
    | none =>
      constructor
      · intro h; cases h
      · rintro ⟨⟨h1, h2⟩, h3, h4⟩
        have hp := val_pos l h1
        have := (ih (valI l)).2 ⟨h1, rfl, by omega⟩
        rw [hs] at this; cases this
    | some v =>
      obtain ⟨h1, h2, h3⟩ := (ih v).1 hs
      have hp := val_pos l h1
      show scan v [dig c.toNat] = some a ↔ _
      rw [scan, h2]
      unfold dig
      split
      · rename_i hd
        split
        · rename_i hb
          constructor
          · intro h; cases h
          · rintro ⟨-, h5, h6⟩; omega
        · rename_i hb
          rw [scan]
          constructor
          · intro h; cases h; exact ⟨⟨h1, hd⟩, rfl, by omega⟩
          · rintro ⟨-, h5, h6⟩; rw [h5]
      · rename_i hd
        rw [if_pos (by left; decide)]
        constructor
        · intro h; cases h
        · rintro ⟨⟨-, h5⟩, -⟩; exact absurd h5 hd
theorem u8_eq {c : UInt8} {n : Nat} (h : c.toNat = n) : UInt8.ofNat n = c := by rw [← h]; simp
theorem dec_small {n : Nat} (h : n < 10) : Lib.decDigits n = [UInt8.ofNat (48 + n)] := by rw [Lib.decDigits, dif_pos h]
theorem dec_big {n : Nat} (h : ¬ n < 10) : Lib.decDigits n = Lib.decDigits (n / 10) ++ [UInt8.ofNat (48 + n % 10)] := by rw [Lib.decDigits, dif_neg h]
theorem nought_snoc {l : List UInt8} {c : UInt8} (h : nought (l ++ [c]) = false) : nought l = false := by
  match l with
  | [] => rfl
  | [_] => rfl
  | _ :: _ :: _ => exact h
theorem dec_of (l : List UInt8) : Dg l → l ≠ [] → nought l = false → Lib.decDigits (valI l).toNat = l := by
  refine snoc_ind (P := fun l => Dg l → l ≠ [] → nought l = false → Lib.decDigits (valI l).toNat = l) (fun _ h => absurd rfl h) (fun l c ih hd _ hn => ?_) l
  obtain ⟨h1, h2⟩ := Dg.snoc.1 hd
  rw [val_snoc]
  have hp := val_pos l h1
  by_cases hl : l = []
  · subst hl
    rw [show valI [] = 0 from rfl, dec_small (by omega)]
    exact congrArg (fun x => [x]) (u8_eq (by omega))
  · have hi := ih h1 hl (nought_snoc hn)
    have hv : valI l ≠ 0 := by
      intro h0
      rw [h0] at hi
      have : Lib.decDigits (0 : Int).toNat = [48] := by rw [Lib.decDigits, dif_pos (by decide)]; rfl
      rw [this] at hi
      rw [← hi] at hn
      simp [nought] at hn
    rw [dec_big (by omega)]
    have e1 : (valI l * 10 + ((c.toNat : Int) - 48)).toNat / 10 = (valI l).toNat := by omega
    have e2 : 48 + (valI l * 10 + ((c.toNat : Int) - 48)).toNat % 10 = c.toNat := by omega
    rw [e1, hi, u8_eq e2.symm]
theorem dec_dg (n : Nat) : Dg (Lib.decDigits n) ∧ valI (Lib.decDigits n) = n ∧ nought (Lib.decDigits n) = false ∧ Lib.decDigits n ≠ [] ∧ (0 < n → (Lib.decDigits n).head? ≠ some 48) := by
  induction n using Nat.strongRecOn with
  | _ n ih =>
    have toN : ∀ k, k < 10 → (UInt8.ofNat (48 + k)).toNat = 48 + k := fun k hk => by simp; omega
    by_cases h : n < 10
    · rw [dec_small h]
      have e := toN n h
      refine ⟨?_, ?_, rfl, by simp, ?_⟩
      · intro c hc
        rw [List.mem_singleton.1 hc, e]; omega
      · simp only [valI, List.foldl_cons, List.foldl_nil, e]; omega
      · intro hp hh
        simp only [List.head?_cons, Option.some.injEq] at hh
        rw [hh] at e
        have : UInt8.toNat 48 = 48 := rfl
        omega
    · obtain ⟨h1, h2, h3, h4, h5⟩ := ih (n / 10) (by omega)
      have e := toN (n % 10) (by omega)
      have h6 := h5 (by omega)
      rw [dec_big h]
      refine ⟨Dg.snoc.2 ⟨h1, by omega, by omega⟩, ?_, ?_, by simp, ?_⟩
      · rw [val_snoc, h2, e]; omega
      · cases hl : Lib.decDigits (n / 10) with
        | nil => exact absurd hl h4
        | cons c r =>
          rw [hl] at h6
          simp only [List.head?_cons, ne_eq, Option.some.injEq] at h6
          cases r <;> simp [nought, h6]
      · intro _
        cases hl : Lib.decDigits (n / 10) with
        | nil => exact absurd hl h4
        | cons c r => rw [hl] at h6; simpa using h6
theorem nine_val (B : List UInt8) (h : B.length = 9) : valI (49 :: B) = 1000000000 + valI B := by
  match B, h with
  | [a, b, c, d, e, f, g, i, j], _ =>
    simp only [valI, List.foldl_cons, List.foldl_nil]
    have : ((UInt8.toNat 49 : Nat) : Int) = 49 := rfl
    omega
theorem nine_bd (B : List UInt8) (h : B.length = 9) (hd : Dg B) : valI B ≤ 999999999 := by
  match B, h with
  | [a, b, c, d, e, f, g, i, j], _ =>
    have := hd a (by simp)
    have := hd b (by simp)
    have := hd c (by simp)
    have := hd d (by simp)
    have := hd e (by simp)
    have := hd f (by simp)
    have := hd g (by simp)
    have := hd i (by simp)
    have := hd j (by simp)
    simp only [valI, List.foldl_cons, List.foldl_nil]
    omega
/-- Nine digits: the text's end. -/
theorem nine_of (B : List UInt8) (h : B.length = 9) (hd : Dg B) : Lib.decDigits (1000000000 + (valI B).toNat) = 49 :: B := by
  have hp := val_pos B hd
  have h1 : Dg (49 :: B) := by
    intro c hc
    rcases List.mem_cons.1 hc with rfl | hc
    · decide
    · exact hd c hc
  have h2 := dec_of (49 :: B) h1 (by simp) (by cases B <;> simp [nought])
  rw [nine_val B h] at h2
  rw [← h2]
  congr 1
  omega
theorem nine_dec (R : Nat) (hR : R < 1000000000) : ∃ B : List UInt8, Lib.decDigits (1000000000 + R) = 49 :: B ∧ B.length = 9 ∧ Dg B ∧ valI B = R := by
  have h := dg_nine R hR
  obtain ⟨h1, h2, -⟩ := dec_dg (1000000000 + R)
  unfold dg at h
  cases hl : Lib.decDigits (1000000000 + R) with
  | nil => rw [hl] at h; simp at h
  | cons c B =>
    rw [hl] at h h1 h2
    simp only [List.map_cons, List.cons.injEq] at h
    have hc : c = 49 := UInt8.toNat_inj.1 h.1
    subst hc
    have h9 : B.length = 9 := by have := congrArg List.length h.2; simpa [t9] using this
    have h3 := nine_val B h9
    exact ⟨B, rfl, h9, fun d hd => h1 d (by simp [hd]), by omega⟩
/-- What Parse answers. -/
def parseP (t : List UInt8) : Int × Int × Int := if early t = true then (0, 0, 4) else match scan 0 (ds (cutF t)), scan 0 (ds (cutB t)) with
  | some a, some b => (a, b, 0)
  | _, _ => (0, 0, 4)
/-- A span's text, in parts. -/
theorem txt_parts (s n : Int) (m : may s n = true) : ∃ F B : List UInt8, txt s n = F ++ 46 :: B ∧ F = Lib.decDigits s.toNat ∧ B.length = 9 ∧ Dg F ∧ Dg B ∧ valI F = s ∧ valI B = n ∧ nought F = false ∧ F ≠ [] := by
  obtain ⟨a1, a2, b1, b2⟩ := may_iff.1 m
  obtain ⟨B, h1, h2, h3, h4⟩ := nine_dec n.toNat (by omega)
  obtain ⟨g1, g2, g3, g4, -⟩ := dec_dg s.toNat
  refine ⟨Lib.decDigits s.toNat, B, ?_, rfl, h2, g1, h3, by omega, by omega, g3, g4⟩
  unfold txt Lib.itoa
  rw [if_neg (by omega), if_neg (by omega), show ((1000000000 : Int) + n).toNat = 1000000000 + n.toNat by omega, h1]
  simp
theorem parse_txt (s n : Int) (m : may s n = true) : parseP (txt s n) = (s, n, 0) := by
  obtain ⟨a1, a2, b1, b2⟩ := may_iff.1 m
  obtain ⟨F, B, h, -, h9, d1, d2, v1, v2, hn, h0⟩ := txt_parts s n m
  have hc := cut_of F B (fun c hc e => by have := d1 c hc; rw [e] at this; exact absurd this (by decide))
  unfold parseP early
  rw [h, hc.1, hc.2, hn, h9, (scan_iff F s).2 ⟨d1, v1, by omega⟩, (scan_iff B n).2 ⟨d2, v2, by omega⟩]
  cases F with
  | nil => exact absurd rfl h0
  | cons c r => rfl
theorem rparse_txt (s n : Int) (m : may s n = true) : rparseP (txt s n) = (s, n, 0) := by
  obtain ⟨a1, a2, b1, b2⟩ := may_iff.1 m
  obtain ⟨F, B, h, hF, h9, d1, d2, v1, v2, hn, h0⟩ := txt_parts s n m
  have hl : F.length ≤ 10 := by rw [hF]; exact dec_le 9 s.toNat (by omega)
  have hl1 : 1 ≤ F.length := by rw [hF]; exact dec_length _
  have hL : (txt s n).length = F.length + 10 := by rw [h]; simp; omega
  have e1 : rS (txt s n) = s := by
    unfold rS
    rw [hL, h, show F.length + 10 - 10 = F.length by omega, List.take_left', v1]
    rfl
  have e2 : rN (txt s n) = n := by
    unfold rN
    rw [hL, h, show F.length + 10 - 10 + 1 = F.length + 1 by omega]
    rw [show F ++ 46 :: B = (F ++ [46]) ++ B by simp, List.drop_left' (by simp), v2]
  unfold rparseP
  rw [e1, e2, if_pos ⟨by omega, by omega, m, rfl⟩]
theorem parse_shape (t : List UInt8) (h : parseP t ≠ (0, 0, 4)) : ∃ s n, may s n = true ∧ t = txt s n := by
  unfold parseP at h
  split at h
  · exact absurd rfl h
  · rename_i he
    split at h
    · rename_i a b ha hb
      obtain ⟨d1, v1, l1⟩ := (scan_iff _ _).1 ha
      obtain ⟨d2, v2, l2⟩ := (scan_iff _ _).1 hb
      have he' : early t = false := by simpa using he
      unfold early at he'
      simp only [Bool.or_eq_false_iff, Bool.not_eq_false', beq_iff_eq, beq_eq_false_iff_ne] at he'
      obtain ⟨⟨f0, f1⟩, f9⟩ := he'
      have hs := cut_shape t (by intro e; rw [e] at f9; simp at f9)
      have p1 := val_pos _ d1
      have p2 := val_pos _ d2
      have b9 := nine_bd _ f9 d2
      refine ⟨a, b, may_iff.2 ⟨by omega, by omega, by omega, by omega⟩, ?_⟩
      unfold txt Lib.itoa
      rw [if_neg (by omega), if_neg (by omega), ← v1, ← v2, show ((1000000000 : Int) + valI (cutB t)).toNat = 1000000000 + (valI (cutB t)).toNat by omega, nine_of _ f9 d2, dec_of _ d1 f0 f1]
      simpa using hs
    · exact absurd rfl h
theorem parse_same (t : List UInt8) : parseP t = rparseP t := by
  by_cases h : ∃ s n, may s n = true ∧ t = txt s n
  · obtain ⟨s, n, m, rfl⟩ := h
    rw [parse_txt s n m, rparse_txt s n m]
  · have h1 : parseP t = (0, 0, 4) := Classical.byContradiction fun hc => h (parse_shape t hc)
    rw [h1]
    unfold rparseP
    split
    · rename_i hr
      exact absurd ⟨_, _, hr.2.2.1, hr.2.2.2.symm⟩ h
    · rfl
theorem parse_any (w : World) (t : List UInt8) (hl : t.length < 1000000) (h : Wd w) : Calls Tryd.prog 25 #[.string ⟨t.toArray⟩] w fun x w' => x = .returned (spE (parseP t)) ∧ Kp w w' [] := by
  unfold parseP
  by_cases he : early t = true
  · rw [if_pos he]
    exact parse_early w t hl h he
  · rw [if_neg he]
    have he' : early t = false := by simpa using he
    unfold early at he'
    simp only [Bool.or_eq_false_iff, Bool.not_eq_false', beq_iff_eq, beq_eq_false_iff_ne] at he'
    obtain ⟨⟨f0, f1⟩, f9⟩ := he'
    refine (parse_main w t _ _ hl h rfl rfl f1 f0 f9).mono fun e w' ⟨h1, h2⟩ => ⟨?_, h2⟩
    rw [h1]
    cases scan 0 (ds (cutF t)) <;> cases scan 0 (ds (cutB t)) <;> rfl
theorem rparse_any (w : World) (t : List UInt8) (hl : t.length ≤ 9000) : Calls Tryd.prog 26 #[.string ⟨t.toArray⟩] w fun x w' => x = .returned (spE (parseP t)) ∧ Kp w w' [] := by
  rw [parse_same]
  by_cases h : 11 ≤ t.length ∧ t.length ≤ 20
  · exact rparse_mid w t h.1 h.2
  · have : rparseP t = (0, 0, 4) := by unfold rparseP; rw [if_neg (fun hc => h ⟨hc.1, hc.2.1⟩)]
    rw [this]
    exact rparse_no w t hl (by omega)
end Go.Proofs.YtojdahgoapknjaaDoor
