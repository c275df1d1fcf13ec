/- Turns in memory; what may be looked at. -/
import Derived.Test.YtclbphnelfacfaaVc
namespace Go.Proofs.Ytclbphnelfacfaa
open Go.RowKit Go.Shelf

/-- Of each thread: is it a robin, what is left. -/
abbrev Sh := Nat → Bool × Nat
def updS (S : Sh) (t : Nat) (v : Bool × Nat) : Sh := fun x => if x = t then v else S x
def tG (p : Option Addr) (q : Nat) (S : Sh) : Nat → Value := fun i => if i = 0 then .pointer p else if i = 1 then .int .i64 (q : Nat) else if i % 2 = 0 then .bool (S (i / 2 - 1)).1 else .int .i64 ((S (i / 2 - 1)).2 : Nat)
def Tc (w : World) (xb : Nat) (p : Option Addr) (q : Nat) (S : Sh) : Prop := w.heap[xb]? = some (.cells (vcl (tG p q S) 34 0).toArray 60 (0, 0))
section
variable {w w' : World} {xb q : Nat} {p : Option Addr} {S : Sh}
theorem Tc.lt (h : Tc w xb p q S) : xb < w.heap.size := lt_of_block h
theorem Tc.keep (h : Tc w xb p q S) {rows : List Nat} (hk : Kp w w' rows) (hr : xb ∉ rows) : Tc w' xb p q S := (hk.block xb h.lt hr).trans h
theorem Tc.seqs (h : Tc w xb p q S) : w.cell? ⟨xb, 0, none⟩ = some (.pointer p) := vcl_cell h 0 (by decide)
theorem Tc.quantum (h : Tc w xb p q S) : w.cell? ⟨xb, 1, none⟩ = some (.int .i64 (q : Nat)) := vcl_cell h 1 (by decide)
theorem tG_robin (p : Option Addr) (q : Nat) (S : Sh) (t : Nat) : tG p q S (2 + t * 2) = .bool (S t).1 := by
  unfold tG
  rw [if_neg (by omega), if_neg (by omega), if_pos (by omega), show (2 + t * 2) / 2 - 1 = t by omega]
theorem tG_left (p : Option Addr) (q : Nat) (S : Sh) (t : Nat) : tG p q S (2 + t * 2 + 1) = .int .i64 ((S t).2 : Nat) := by
  unfold tG
  rw [if_neg (by omega), if_neg (by omega), if_neg (by omega), show (2 + t * 2 + 1) / 2 - 1 = t by omega]
theorem Tc.robin (h : Tc w xb p q S) {t : Nat} (ht : t < 16) : w.cell? ⟨xb, 2 + t * 2, none⟩ = some (.bool (S t).1) := by
  rw [vcl_cell h _ (by omega), tG_robin]
theorem Tc.left (h : Tc w xb p q S) {t : Nat} (ht : t < 16) : w.cell? ⟨xb, 2 + t * 2 + 1, none⟩ = some (.int .i64 ((S t).2 : Nat)) := by
  rw [vcl_cell h _ (by omega), tG_left]
theorem Tc.free (h : Tc w xb p q S) (i : Nat) : w.frozen? ⟨xb, i, none⟩ = false := by simp [World.frozen?, show w.heap[xb]? = _ from h]
theorem Tc.setRobin (h : Tc w xb p q S) {t : Nat} (ht : t < 16) (b : Bool) : Tc (w.setCell ⟨xb, 2 + t * 2, none⟩ (.bool b)) xb p q (updS S t (b, (S t).2)) := by
  refine vcl_heap h (by omega) fun i hi => ?_
  by_cases e : i = 2 + t * 2
  · rw [if_pos e, e, tG_robin]; simp [updS]
  · rw [if_neg e]
    unfold tG
    by_cases e0 : i = 0
    · simp [e0]
    by_cases e1 : i = 1
    · simp [e1]
    rw [if_neg e0, if_neg e1, if_neg e0, if_neg e1]
    by_cases e2 : i % 2 = 0
    · rw [if_pos e2, if_pos e2, updS, if_neg (by omega)]
    · rw [if_neg e2, if_neg e2, updS]
      by_cases e3 : i / 2 - 1 = t
      · rw [if_pos e3, e3]
      · rw [if_neg e3]
theorem Tc.setLeft (h : Tc w xb p q S) {t : Nat} (ht : t < 16) (k : Nat) : Tc (w.setCell ⟨xb, 2 + t * 2 + 1, none⟩ (.int .i64 (k : Nat))) xb p q (updS S t ((S t).1, k)) := by
  refine vcl_heap h (by omega) fun i hi => ?_
  by_cases e : i = 2 + t * 2 + 1
  · rw [if_pos e, e, tG_left]; simp [updS]
  · rw [if_neg e]
    unfold tG
    by_cases e0 : i = 0
    · simp [e0]
    by_cases e1 : i = 1
    · simp [e1]
    rw [if_neg e0, if_neg e1, if_neg e0, if_neg e1]
    by_cases e2 : i % 2 = 0
    · rw [if_pos e2, if_pos e2, updS]
      by_cases e3 : i / 2 - 1 = t
      · rw [if_pos e3, e3]
      · rw [if_neg e3]
    · rw [if_neg e2, if_neg e2, updS, if_neg (by omega)]
theorem updS_two (S : Sh) (t : Nat) (b : Bool) (k : Nat) : updS (updS S t (b, (S t).2)) t ((updS S t (b, (S t).2) t).1, k) = updS S t (b, k) := by
  funext x
  by_cases e : x = t <;> simp [updS, e]
theorem Tc.set (h : Tc w xb p q S) {t : Nat} (ht : t < 16) (b : Bool) (k : Nat) : Tc ((w.setCell ⟨xb, 2 + t * 2, none⟩ (.bool b)).setCell ⟨xb, 2 + t * 2 + 1, none⟩ (.int .i64 (k : Nat))) xb p q (updS S t (b, k)) := by
  have := (h.setRobin ht b).setLeft ht k
  rwa [updS_two] at this
end

/-- Turns at block xb: the sequences L in the ready list at rb. -/
structure Tn (w : World) (xb rb q : Nat) (S : Sh) (L : Ls) (s : Nat) : Prop where
  tc : Tc w xb (some ⟨rb, 0, none⟩) q S
  rd : Rd w rb L s
  q1 : 1 ≤ q
  q2 : q ≤ 100
  left : ∀ t, (S t).2 ≤ 100
section
variable {w w' : World} {xb rb q s : Nat} {S : Sh} {L : Ls}
theorem Tn.ne (h : Tn w xb rb q S L s) : xb ≠ rb := by
  obtain ⟨c, u, hR, -⟩ := h.rd
  exact block_ne h.tc hR (by decide)
theorem Tn.keep (h : Tn w xb rb q S L s) {rows : List Nat} (hk : Kp w w' rows) (h1 : xb ∉ rows) (h2 : rb ∉ rows) : Tn w' xb rb q S L s := ⟨h.tc.keep hk h1, h.rd.keep hk h2, h.q1, h.q2, h.left⟩
theorem Tn.same (h : Tn w xb rb q S L s) (hk : Kp w w' []) : Tn w' xb rb q S L s := h.keep hk (by simp) (by simp)
/-- What a call leaves. -/
def To (w w' : World) (xb rb q : Nat) (S : Sh) (L : Ls) (s k : Nat) : Prop := (∃ s', s' ≤ s + k ∧ Tn w' xb rb q S L s') ∧ Kp w w' [xb, rb]
theorem To.more {k k' : Nat} (h : To w w' xb rb q S L s k) (hk : k ≤ k') : To w w' xb rb q S L s k' := by
  obtain ⟨⟨s', h1, h2⟩, h3⟩ := h
  exact ⟨⟨s', by omega, h2⟩, h3⟩

set_option maxRecDepth 100000 in
theorem tseq_any (w : World) (xb : Nat) (p : Option Addr) (q : Nat) (S : Sh) (h : Tc w xb p q S) : Calls Try.prog 42 #[.pointer (some ⟨xb, 0, none⟩)] w fun e w' => e = .returned (.pointer p) ∧ w' = w := by
  have c0 := h.seqs
  clear h
  go_enter Try.func42, Try.ntmps42
  go_wp2
  go_ret
  exact ⟨rfl, rfl⟩
set_option maxRecDepth 100000 in
theorem tzero_ok (w : World) (xb rb q : Nat) (S : Sh) (h : Tc w xb (some ⟨rb, 0, none⟩) q S) : Calls Try.prog 47 #[.pointer (some ⟨xb, 0, none⟩)] w fun e w' => e = .returned (.bool false) ∧ w' = w := by
  have cs := tseq_any w xb _ q S h
  clear h
  go_enter Try.func47, Try.ntmps47
  go_wp2_with (go_at_call 42; refine cs.mono ?_; rintro e w' ⟨rfl, rfl⟩)
  go_ret
  exact ⟨rfl, rfl⟩
set_option maxRecDepth 100000 in
theorem tmayP_any (w : World) (p : Int) : Calls Try.prog 76 #[.int .i64 p] w fun e w' => e = .returned (.bool (decide (1 ≤ p ∧ p ≤ 31))) ∧ w' = w := by
  by_cases h1 : 1 ≤ p
  · by_cases h2 : p ≤ 31
    · rw [show decide (1 ≤ p ∧ p ≤ 31) = true by simp [h1, h2]]
      go_enter Try.func76, Try.ntmps76
      go_wp2
      go_ret
      exact ⟨rfl, rfl⟩
    · rw [show decide (1 ≤ p ∧ p ≤ 31) = false by simp [h2]]
      go_enter Try.func76, Try.ntmps76
      go_wp2
      go_ret
      exact ⟨rfl, rfl⟩
  · rw [show decide (1 ≤ p ∧ p ≤ 31) = false by simp [h1]]
    go_enter Try.func76, Try.ntmps76
    go_wp2
    go_ret
    exact ⟨rfl, rfl⟩
set_option maxRecDepth 100000 in
theorem tmayT_any (w : World) (t : Int) : Calls Try.prog 74 #[.int .i64 t] w fun e w' => e = .returned (.bool (decide (0 ≤ t ∧ t < 16))) ∧ w' = w := by
  by_cases h1 : 0 ≤ t
  · by_cases h2 : t < 16
    · rw [show decide (0 ≤ t ∧ t < 16) = true by simp [h1, h2]]
      go_enter Try.func74, Try.ntmps74
      go_wp2
      go_ret
      exact ⟨rfl, rfl⟩
    · rw [show decide (0 ≤ t ∧ t < 16) = false by simp [h2]]
      go_enter Try.func74, Try.ntmps74
      go_wp2
      go_ret
      exact ⟨rfl, rfl⟩
  · rw [show decide (0 ≤ t ∧ t < 16) = false by simp [h1]]
    go_enter Try.func74, Try.ntmps74
    go_wp2
    go_ret
    exact ⟨rfl, rfl⟩

set_option maxRecDepth 100000 in
theorem Tn.runs (h : Tn w xb rb q S L s) (hs : s ≤ 900000) : Calls Try.prog 18 #[.pointer (some ⟨xb, 0, none⟩)] w fun e w' => e = .returned (.tuple #[.int .i64 (fstV L : Nat), .bool (fstB L)]) ∧ To w w' xb rb q S L s 1 := by
  have cs := tseq_any w xb _ q S h.tc
  have cf := h.rd.first hs
  have H := hid h
  have hne := h.ne
  clear h
  go_enter Try.func18, Try.ntmps18
  go_wp2_with (go_at_call 42; refine cs.mono ?_; rintro e w' ⟨rfl, rfl⟩)
  refine cf.mono ?_
  rintro e w1 ⟨rfl, ⟨s', l1, l2, hR⟩, hK⟩
  have H2 := hid (show To w' w1 xb rb q S L s 1 from ⟨⟨s', l2, ⟨H.out.tc.keep hK (by simp; exact hne), hR, H.out.q1, H.out.q2, H.out.left⟩⟩, hK.mono (by intro x hx _; simp at hx; simp [hx])⟩)
  clear hR hK
  go_wp2
  go_ret2
  exact ⟨rfl, H2.out⟩
set_option maxRecDepth 100000 in
theorem Tn.prio (h : Tn w xb rb q S L s) (t : Int) : Calls Try.prog 25 #[.pointer (some ⟨xb, 0, none⟩), .int .i64 t] w fun e w' => e = .returned (.tuple #[.int .i64 (prI L t : Nat), .bool (decide (prI L t ≠ 0))]) ∧ w' = w := by
  have cs := tseq_any w xb _ q S h.tc
  have cf := h.rd.prio t
  clear h
  obtain ⟨b, hb⟩ : ∃ b, decide (prI L t ≠ 0) = b := ⟨_, rfl⟩
  rw [hb] at cf ⊢
  clear hb
  go_enter Try.func25, Try.ntmps25
  go_wp2_with (go_at_call 42; refine cs.mono ?_; rintro e w' ⟨rfl, rfl⟩)
  refine cf.mono ?_
  rintro e w1 ⟨rfl, rfl⟩
  go_wp2
  go_ret2
  exact ⟨rfl, rfl⟩
set_option maxRecDepth 100000 in
theorem Tn.len (h : Tn w xb rb q S L s) : Calls Try.prog 32 #[.pointer (some ⟨xb, 0, none⟩)] w fun e w' => e = .returned (.int .i64 (seqs L 31).length) ∧ Kp w w' [] := by
  have cs := tseq_any w xb _ q S h.tc
  have cf := h.rd.len
  clear h
  go_enter Try.func32, Try.ntmps32
  go_wp2_with (go_at_call 42; refine cs.mono ?_; rintro e w' ⟨rfl, rfl⟩)
  refine cf.mono ?_
  rintro e w1 ⟨rfl, hK⟩
  have HK := hid hK
  clear hK
  go_wp2
  go_ret
  exact ⟨rfl, HK.out⟩
set_option maxRecDepth 100000 in
theorem Tn.of (h : Tn w xb rb q S L s) (p : Int) : Calls Try.prog 17 #[.pointer (some ⟨xb, 0, none⟩), .int .i64 p] w fun e w' => (∃ V, e = .returned V ∧ Ns w' w.heap.size V (seqI L p)) ∧ Kp w w' [] := by
  have cs := tseq_any w xb _ q S h.tc
  have cf := h.rd.list p
  clear h
  go_enter Try.func17, Try.ntmps17
  go_wp2_with (go_at_call 42; refine cs.mono ?_; rintro e w' ⟨rfl, rfl⟩)
  refine cf.mono ?_
  rintro e w1 ⟨⟨V, rfl, hV⟩, hK⟩
  have HK := hid hK
  have HV := hid hV
  clear hK hV
  go_wp2
  go_ret
  exact ⟨⟨V, rfl, HV.out⟩, HK.out⟩
end
end Go.Proofs.Ytclbphnelfacfaa
