/- Texts that Parse refuses at once. -/
import Derived.Test.YtojdahgoapknjaaDoorText
namespace Go.Proofs.YtojdahgoapknjaaDoor
open Go.RowKit Go.Shelf
set_option linter.unusedVariables false

/-- A nought in front of other digits. -/
def nought (F : List UInt8) : Bool := match F with
  | c :: _ :: _ => c == 48
  | _ => false

set_option maxRecDepth 100000 in
theorem nought_any (w : World) (F : List UInt8) (hl : F.length < 1000000) : Calls Tryd.prog 34 #[.string ⟨F.toArray⟩] w fun x w' => x = .returned (.bool (nought F)) ∧ w' = w := by
  cases F with
  | nil =>
    go_enter Tryd.func34, Tryd.ntmps34
    go_wp2
    go_ret
    exact ⟨rfl, rfl⟩
  | cons c r =>
    cases r with
    | nil =>
      go_enter Tryd.func34, Tryd.ntmps34
      go_wp2
      go_ret
      exact ⟨rfl, rfl⟩
    | cons d r =>
      have h1 : (1 : Int) < (r.length : Int) + 1 + 1 := by omega
      have h2 : (0 : Int) < (r.length : Int) + 1 + 1 := by omega
      have HE := hid (show ((((⟨(c :: d :: r).toArray⟩ : ByteArray)[0]'(by simp [ByteArray.size])).toNat : Int) == 48) = (c == 48) by
        show ((c.toNat : Int) == 48) = (c == 48)
        rw [Bool.eq_iff_iff]
        simp only [beq_iff_eq]
        constructor
        · intro h; exact UInt8.toNat_inj.1 (by rw [show UInt8.toNat 48 = 48 from rfl]; omega)
        · intro h; rw [h]; rfl)
      rw [show nought (c :: d :: r) = (c == 48) from rfl]
      go_enter Tryd.func34, Tryd.ntmps34
      go_wp2
      go_ret
      exact ⟨by rw [← HE.out]; rfl, rfl⟩

/-- What strings.Cut leaves of a text at its point. -/
def cutF (t : List UInt8) : List UInt8 := (Lib.cut t [46]).1
def cutB (t : List UInt8) : List UInt8 := (Lib.cut t [46]).2.1
theorem cut_any (w : World) (t : List UInt8) (hl : t.length < 1000000) (h : Wd w) : Calls Tryd.prog 33 #[.string ⟨t.toArray⟩, .string ⟨#[46]⟩] w fun e w' => (∃ f, e = .returned (.tuple #[.string ⟨(cutF t).toArray⟩, .string ⟨(cutB t).toArray⟩, .bool f])) ∧ Kp w w' [] := by
  obtain ⟨m, hm⟩ := h.mx
  refine (Tryd.cut ⟨t.toArray⟩ ⟨#[46]⟩ m w (by show t.toArray.size < 4294967281; simp; omega) hm).mono fun e w' ⟨he, n, hw⟩ => ⟨⟨_, he⟩, ?_⟩
  rw [hw]
  exact Kp.drewN _ _ _
theorem cutF_length (t : List UInt8) : (cutF t).length ≤ t.length := by
  unfold cutF Lib.cut
  split
  · simp; omega
  · simp
theorem cutB_length (t : List UInt8) : (cutB t).length ≤ t.length := by
  unfold cutB Lib.cut
  split
  · simp
  · simp
/-- Refused ahead of its digits. -/
def early (t : List UInt8) : Bool := (cutF t == []) || nought (cutF t) || !((cutB t).length == 9)
abbrev noE : Value := spE (0, 0, 4)

set_option maxRecDepth 100000 in
theorem parse_early (w : World) (t : List UInt8) (hl : t.length < 1000000) (h : Wd w) (hr : early t = true) : Calls Tryd.prog 25 #[.string ⟨t.toArray⟩] w fun x w' => x = .returned noE ∧ Kp w w' [] := by
  have ct := fun w h => cut_any w t hl h
  have cn := fun w => nought_any w (cutF t) (by have := cutF_length t; omega)
  have bl := cutB_length t
  unfold early at hr
  obtain ⟨F, hF⟩ : ∃ F, cutF t = F := ⟨_, rfl⟩
  obtain ⟨B, hB⟩ : ∃ B, cutB t = B := ⟨_, rfl⟩
  simp only [hF, hB] at ct cn hr bl
  have HW := hid h
  clear h hF hB
  cases F with
  | nil =>
    go_enter Tryd.func25, Tryd.ntmps25
    go_wp2_with fail
    go_step3
    go_wp2_with fail
    have p1 := bx_new w 0 0
    refine (ct _ (HW.out.keep (Kp.alloc _ _ _))).mono ?_
    rintro e w1 ⟨⟨f, rfl⟩, k1⟩
    have K1 := hid ((Kp.alloc w (ob 0 0) []).trans k1)
    have P1 := hid (p1.keep k1)
    clear p1 k1
    have x0 := P1.out.c0
    have x1 := P1.out.c1
    have x2 := P1.out.f0
    have x3 := P1.out.f1
    go_wp2_with fail
    rw [Exit.noGoto_ret]
    exact bodyPost_ret (v := spE (0, 0, 4)) (by simp [results, Tryd.results25, go_sem, (P1.out.set 0 0).c0, (P1.out.set 0 0).c1]) rfl ⟨rfl, K1.out.store2 (by omega) _ _⟩
  | cons c r =>
    have hc : ((⟨(c :: r).toArray⟩ : ByteArray) == ⟨#[]⟩) = false := by rw [beq_toListBytes, ByteArray.toList_eq, ByteArray.toList_eq]; rfl
    cases hn : nought (c :: r) with
    | true =>
      simp only [hn] at cn
      clear hn hr
      go_enter Tryd.func25, Tryd.ntmps25
      go_wp2_with fail
      go_step3
      go_wp2_with fail
      have p1 := bx_new w 0 0
      refine (ct _ (HW.out.keep (Kp.alloc _ _ _))).mono ?_
      rintro e w1 ⟨⟨f, rfl⟩, k1⟩
      have K1 := hid ((Kp.alloc w (ob 0 0) []).trans k1)
      have P1 := hid (p1.keep k1)
      clear p1 k1
      go_wp2_with fail
      refine (cn _).mono ?_
      rintro e w2 ⟨rfl, rfl⟩
      have x0 := P1.out.c0
      have x1 := P1.out.c1
      have x2 := P1.out.f0
      have x3 := P1.out.f1
      go_wp2_with fail
      rw [Exit.noGoto_ret]
      exact bodyPost_ret (v := spE (0, 0, 4)) (by simp [results, Tryd.results25, go_sem, (P1.out.set 0 0).c0, (P1.out.set 0 0).c1]) rfl ⟨rfl, K1.out.store2 (by omega) _ _⟩
    | false =>
      simp only [hn] at cn
      rw [hn] at hr
      have h9 : ¬ B.length = 9 := by simpa using hr
      have h9' : (((B.length : Nat) : Int) == 9) = false := by simp; omega
      have h9i : ¬ ((B.length : Nat) : Int) = 9 := by omega
      clear hn hr
      go_enter Tryd.func25, Tryd.ntmps25
      go_wp2_with fail
      go_step3
      go_wp2_with fail
      have p1 := bx_new w 0 0
      refine (ct _ (HW.out.keep (Kp.alloc _ _ _))).mono ?_
      rintro e w1 ⟨⟨f, rfl⟩, k1⟩
      have K1 := hid ((Kp.alloc w (ob 0 0) []).trans k1)
      have P1 := hid (p1.keep k1)
      clear p1 k1
      go_wp2_with fail
      refine (cn _).mono ?_
      rintro e w2 ⟨rfl, rfl⟩
      have x0 := P1.out.c0
      have x1 := P1.out.c1
      have x2 := P1.out.f0
      have x3 := P1.out.f1
      go_wp2_with fail
      rw [Exit.noGoto_ret]
      exact bodyPost_ret (v := spE (0, 0, 4)) (by simp [results, Tryd.results25, go_sem, (P1.out.set 0 0).c0, (P1.out.set 0 0).c1]) rfl ⟨rfl, K1.out.store2 (by omega) _ _⟩
end Go.Proofs.YtojdahgoapknjaaDoor
