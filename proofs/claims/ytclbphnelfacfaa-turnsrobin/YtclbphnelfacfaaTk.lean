/- Turns: Tick, Left, New. -/
import Derived.Test.YtclbphnelfacfaaTm
namespace Go.Proofs.Ytclbphnelfacfaa
open Go.RowKit Go.Shelf

/-- A robin runs. -/
def tkG (L : Ls) (S : Sh) : Bool := fstB L && (S (fstV L)).1
/-- Its quantum ends. -/
def tkB (L : Ls) (S : Sh) : Bool := tkG L S && decide ((S (fstV L)).2 ≤ 1)
def tkV (L : Ls) (S : Sh) : Nat := if tkB L S then fstV L else 0
def tkL (L : Ls) (S : Sh) : Ls := if tkB L S then yiL L (fstV L) else L
def tkS (q : Nat) (L : Ls) (S : Sh) : Sh := if tkG L S then updS S (fstV L) (true, if (S (fstV L)).2 ≤ 1 then q else (S (fstV L)).2 - 1) else S
section
variable {w w' : World} {xb rb q s : Nat} {S : Sh} {L : Ls}
theorem Rd.first_in (h : Rd w rb L s) (hb : fstB L = true) : fstV L < 16 := by
  obtain ⟨c, u, hR, hP⟩ := h
  by_cases hu : u = 0
  · subst hu
    have e := hP.first_none
    unfold fstB at hb
    rw [e] at hb
    cases hb
  · obtain ⟨g1, g2, t, l, hL, hh, hc, ht⟩ := hP.first_some hu
    unfold fstV
    rw [hh]
    exact ht
set_option maxRecDepth 100000 in
set_option maxHeartbeats 1000000 in
theorem Tn.tick (h : Tn w xb rb q S L s) (hs : s ≤ 880000) : Calls Try.prog 16 #[.pointer (some ⟨xb, 0, none⟩)] w fun e w' => e = .returned (.tuple #[.int .i64 (tkV L S : Nat), .bool (tkB L S)]) ∧ To w w' xb rb q (tkS q L S) (tkL L S) s 20 := by
  have cr := h.runs (by omega)
  have hlt := fun hb => h.rd.first_in hb
  unfold tkV tkL tkS
  by_cases h1 : fstB L = true
  case neg =>
    have h1 : fstB L = false := by simpa using h1
    have e1 : tkG L S = false := by unfold tkG; rw [h1]; rfl
    have e2 : tkB L S = false := by unfold tkB; rw [e1]; rfl
    rw [e1, e2]
    rw [h1] at cr
    clear h h1 e1 e2 hlt
    go_enter Try.func16, Try.ntmps16
    go_wp2_with fail
    refine cr.mono ?_
    rintro e w1 ⟨rfl, hT⟩
    have HT := hid hT
    clear hT cr
    go_wp2
    go_ret2
    exact ⟨rfl, HT.out.more (by omega)⟩
  have ht := hlt h1
  rw [h1] at cr
  by_cases h2 : (S (fstV L)).1 = true
  case neg =>
    have h2 : (S (fstV L)).1 = false := by simpa using h2
    have e1 : tkG L S = false := by unfold tkG; rw [h2]; simp
    have e2 : tkB L S = false := by unfold tkB; rw [e1]; rfl
    rw [e1, e2]
    obtain ⟨T, hT⟩ : ∃ T, fstV L = T := ⟨_, rfl⟩
    rw [hT] at cr ht h2
    have ht0 : (0 : Int) ≤ (T : Int) := by omega
    have ht1 : (T : Int) < 16 := by omega
    clear h h1 e1 e2 hT hlt
    go_enter Try.func16, Try.ntmps16
    go_wp2_with fail
    refine cr.mono ?_
    rintro e w1 ⟨rfl, hT⟩
    have HT := hid hT
    obtain ⟨⟨s1, l1, hn⟩, hk⟩ := hT
    have c2 := hn.tc.robin ht
    rw [h2] at c2
    clear hn hk cr
    go_wp2
    go_ret2
    exact ⟨rfl, HT.out.more (by omega)⟩
  have e1 : tkG L S = true := by unfold tkG; rw [h1, h2]; rfl
  by_cases h3 : (S (fstV L)).2 ≤ 1
  · have e2 : tkB L S = true := by unfold tkB; rw [e1]; simp [h3]
    simp only [e1, e2, h3, if_true]
    obtain ⟨T, hT⟩ : ∃ T, fstV L = T := ⟨_, rfl⟩
    rw [hT] at cr ht h2 h3 ⊢
    have ht0 : (0 : Int) ≤ (T : Int) := by omega
    have ht1 : (T : Int) < 16 := by omega
    have hb := h.left T
    obtain ⟨n, hn⟩ : ∃ n, (S T).2 = n := ⟨_, rfl⟩
    rw [hn] at h3 hb
    have h3' : ¬ (1 : Int) < (n : Int) := by omega
    clear h h1 e1 e2 hT hlt
    go_enter Try.func16, Try.ntmps16
    go_wp2_with fail
    refine cr.mono ?_
    rintro e w1 ⟨rfl, hT⟩
    have HT := hid hT
    obtain ⟨⟨s1, l1, h1⟩, hk⟩ := hT
    have c2 := h1.tc.robin ht
    rw [h2] at c2
    have c3 := h1.tc.left ht
    rw [hn] at c3
    have H1 := hid h1
    clear h1 hk cr hn
    go_wp2_with fail
    refine (H1.out.yield (by omega) T).mono ?_
    rintro e w2 ⟨rfl, hT2⟩
    obtain ⟨⟨s2, l2, h2⟩, hk2⟩ := hT2
    have H2 := hid h2
    have K2 := hid (HT.out.2.trans hk2)
    clear h2 hk2 c2 c3
    go_wp2_with fail
    refine (H2.out.fill ht true).mono ?_
    rintro e w3 ⟨⟨v3, rfl⟩, hT3⟩
    obtain ⟨⟨s3, l3, h3⟩, hk3⟩ := hT3
    have H3 := hid (show To w w3 xb rb q (updS S T (true, q)) (yiL L T) s 20 from ⟨⟨s3, by omega, h3⟩, K2.out.trans hk3⟩)
    clear h3 hk3
    go_wp2
    go_ret2
    exact ⟨rfl, H3.out⟩
  · have e2 : tkB L S = false := by unfold tkB; rw [e1]; simp; omega
    rw [e1, e2, if_neg h3]
    simp only [if_true]
    obtain ⟨T, hT⟩ : ∃ T, fstV L = T := ⟨_, rfl⟩
    rw [hT] at cr ht h2 h3 ⊢
    have ht0 : (0 : Int) ≤ (T : Int) := by omega
    have ht1 : (T : Int) < 16 := by omega
    have hb := h.left T
    obtain ⟨n, hn⟩ : ∃ n, (S T).2 = n := ⟨_, rfl⟩
    rw [hn] at h3 hb ⊢
    have h3' : (1 : Int) < (n : Int) := by omega
    clear h h1 e1 e2 hT hlt
    go_enter Try.func16, Try.ntmps16
    go_wp2_with fail
    refine cr.mono ?_
    rintro e w1 ⟨rfl, hT⟩
    have HT := hid hT
    obtain ⟨⟨s1, l1, h1⟩, hk⟩ := hT
    have c2 := h1.tc.robin ht
    rw [h2] at c2
    have c3 := h1.tc.left ht
    rw [hn] at c3
    have f3 := h1.tc.free (2 + T * 2 + 1)
    have H1 := hid h1
    clear h1 hk cr
    have HN := hid hn
    clear hn
    have hw : IntKind.i64.wrap ((n : Int) - 1) = (n : Int) - 1 := IntWalk.i64_in _ ⟨by omega, by omega⟩
    go_wp2
    go_region
    go_wp2
    go_ret2
    have e9 : ((n : Int) - 1) = ((n - 1 : Nat) : Int) := by omega
    have K9 := (Kp.setCell w1 ⟨xb, 2 + T * 2 + 1, none⟩ (.int .i64 ((n - 1 : Nat) : Int))).trans (Kp.drew _ _)
    rw [← e9] at K9
    have h9 := H1.out.tc.setLeft ht (n - 1)
    rw [h2, ← e9] at h9
    refine ⟨rfl, ⟨s1, by omega, ⟨h9.keep (Kp.drew _ []) (by simp), H1.out.rd.keep K9 (by simp; exact fun e => H1.out.ne e.symm), H1.out.q1, H1.out.q2, fun t => ?_⟩⟩, HT.out.2.trans (K9.mono (by intro x hx _; simp at hx; simp [hx]))⟩
    unfold updS
    split
    · show n - 1 ≤ 100
      omega
    · exact H1.out.left t
set_option maxRecDepth 100000 in
theorem Tn.leftOf (h : Tn w xb rb q S L s) (t : Int) : Calls Try.prog 26 #[.pointer (some ⟨xb, 0, none⟩), .int .i64 t] w fun e w' => e = .returned (.tuple #[.int .i64 (if prI L t = 0 then 0 else (S t.toNat).2 : Nat), .bool (decide (prI L t ≠ 0))]) ∧ w' = w := by
  have cp := h.prio t
  by_cases h0 : prI L t = 0
  · rw [if_pos h0]
    rw [h0] at cp ⊢
    clear h h0
    go_enter Try.func26, Try.ntmps26
    go_wp2_with fail
    refine cp.mono ?_
    rintro e w1 ⟨rfl, rfl⟩
    go_wp2
    go_ret2
    exact ⟨rfl, rfl⟩
  · obtain ⟨T, rfl, t1⟩ : ∃ T : Nat, t = T ∧ T < 16 := by
      rcases rem_cases L t with ⟨ha, e1, e2⟩ | ⟨T, rfl, t1, -⟩
      · exfalso
        obtain ⟨c, u, -, hP⟩ := h.rd
        have := hP.prI t
        apply h0
        have hb : prB c t = false := by unfold prB; simp only [ha, decide_false, Bool.false_and]
        rw [this.1]
        unfold prV
        rw [hb]
        rfl
      · exact ⟨T, rfl, t1⟩
    rw [if_neg h0]
    have c3 := h.tc.left t1
    rw [show decide (prI L (T : Int) ≠ 0) = true by simp only [ne_eq, h0, not_false_eq_true, decide_true]] at cp ⊢
    rw [Int.toNat_natCast]
    have ht0 : (0 : Int) ≤ (T : Int) := by omega
    have ht1 : (T : Int) < 16 := by omega
    obtain ⟨n, hn⟩ : ∃ n, (S T).2 = n := ⟨_, rfl⟩
    rw [hn] at c3 ⊢
    clear h h0 hn
    go_enter Try.func26, Try.ntmps26
    go_wp2_with fail
    refine cp.mono ?_
    rintro e w1 ⟨rfl, rfl⟩
    go_wp2
    go_ret2
    exact ⟨rfl, rfl⟩
end
def S0 : Sh := fun _ => (false, 0)
def L0 : Ls := fun _ => []
set_option maxRecDepth 100000 in
theorem tnew_no (w : World) (k : Int) (hk : ¬ (1 ≤ k ∧ k ≤ 100)) : Calls Try.prog 9 #[.int .i64 k] w fun e w' => e = .returned (.tuple #[.pointer none, .int .i64 2]) ∧ w' = w := by
  by_cases h1 : k < 1
  · clear hk
    go_enter Try.func9, Try.ntmps9
    go_wp2
    go_ret2
    exact ⟨rfl, rfl⟩
  · have h2 : 100 < k := by omega
    clear hk
    go_enter Try.func9, Try.ntmps9
    go_wp2
    go_ret2
    exact ⟨rfl, rfl⟩
set_option maxRecDepth 100000 in
theorem tnew_ok (w : World) (k : Nat) (h1 : 1 ≤ k) (h2 : k ≤ 100) : Calls Try.prog 9 #[.int .i64 k] w fun e w' => ∃ xb rb, e = .returned (.tuple #[.pointer (some ⟨xb, 0, none⟩), .int .i64 0]) ∧ Tn w' xb rb k S0 L0 0 ∧ Kp w w' [] ∧ w.heap.size ≤ xb ∧ w.heap.size ≤ rb := by
  have q1 : ¬ (k : Int) < 1 := by omega
  have q2 : ¬ (100 : Int) < (k : Int) := by omega
  have cn := new_rd w
  go_enter Try.func9, Try.ntmps9
  go_wp2_with fail
  refine cn.mono ?_
  rintro e w1 ⟨rfl, hR, hK⟩
  have HR := hid hR
  have HK := hid hK
  clear hR hK cn
  go_wp2
  go_ret2
  refine ⟨w1.heap.size, w.heap.size, rfl, ⟨(heap_alloc_new w1 _).trans (by kernel_rfl), HR.out.keep (Kp.alloc w1 _ []) (by simp), h1, h2, fun t => Nat.zero_le _⟩, HK.out.trans (Kp.alloc w1 _ []), HK.out.size, Nat.le_refl _⟩
end Go.Proofs.Ytclbphnelfacfaa
