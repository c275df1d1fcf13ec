/- Turns that were made within a call; the law's runs. -/
import Derived.Test.YtclbphnelfacfaaTe
import Derived.Test.YtclbphnelfacfaaInts
namespace Go.Proofs.Ytclbphnelfacfaa
open Go.RowKit Go.Shelf

/-- Turns made behind w; at most m links were looked at. -/
structure Kn (w W : World) (xb rb q : Nat) (S : Sh) (L : Ls) (m : Nat) : Prop where
  tn : ∃ s, s ≤ m ∧ Tn W xb rb q S L s
  kp : Kp w W []
  g1 : w.heap.size ≤ xb
  g2 : w.heap.size ≤ rb
section
variable {w W W' : World} {xb rb q m : Nat} {S S' : Sh} {L L' : Ls}
theorem Kn.go (h : Kn w W xb rb q S L m) {k : Nat} (ht : ∀ s, s ≤ m → Tn W xb rb q S L s → To W W' xb rb q S' L' s k) : Kn w W' xb rb q S' L' (m + k) := by
  obtain ⟨s, hs, hT⟩ := h.tn
  obtain ⟨⟨s', h1, h2⟩, h3⟩ := ht s hs hT
  refine ⟨⟨s', by omega, h2⟩, h.kp.past h3 (fun x hx hl => ?_), h.g1, h.g2⟩
  have := h.g1
  have := h.g2
  simp at hx
  omega
theorem Kn.same (h : Kn w W xb rb q S L m) (hk : Kp W W' []) : Kn w W' xb rb q S L m := by
  obtain ⟨s, hs, hT⟩ := h.tn
  exact ⟨⟨s, hs, hT.same hk⟩, h.kp.trans hk, h.g1, h.g2⟩
theorem Kn.more (h : Kn w W xb rb q S L m) {k : Nat} (hk : m ≤ k) : Kn w W xb rb q S L k := by
  obtain ⟨s, hs, hT⟩ := h.tn
  exact ⟨⟨s, by omega, hT⟩, h.kp, h.g1, h.g2⟩
theorem Kn.run (h : Kn w W xb rb q S L m) {f k : Nat} {args : Array Value} {v : Value} (c : ∀ s, s ≤ m → Tn W xb rb q S L s → Calls Try.prog f args W fun e W' => e = .returned v ∧ To W W' xb rb q S' L' s k) :
    Calls Try.prog f args W fun e W' => e = .returned v ∧ Kn w W' xb rb q S' L' (m + k) := by
  obtain ⟨s, hs, hT⟩ := h.tn
  refine (c s hs hT).mono ?_
  rintro e W' ⟨rfl, h3⟩
  obtain ⟨⟨s', h1, h2⟩, h3⟩ := h3
  refine ⟨rfl, ⟨s', by omega, h2⟩, h.kp.past h3 (fun x hx hl => ?_), h.g1, h.g2⟩
  have := h.g1
  have := h.g2
  simp at hx
  omega
theorem Kn.look (h : Kn w W xb rb q S L m) {f : Nat} {args : Array Value} {v : Value} (c : ∀ s, Tn W xb rb q S L s → Calls Try.prog f args W fun e W' => e = .returned v ∧ W' = W) :
    Calls Try.prog f args W fun e W' => e = .returned v ∧ W' = W := by
  obtain ⟨s, hs, hT⟩ := h.tn
  exact c s hT
theorem Kn.of (h : Kn w W xb rb q S L m) (p : Int) : Calls Try.prog 17 #[.pointer (some ⟨xb, 0, none⟩), .int .i64 p] W fun e w' => (∃ V, e = .returned V ∧ Ns w' W.heap.size V (seqI L p)) ∧ Kp W w' [] := by
  obtain ⟨s, hs, hT⟩ := h.tn
  exact hT.of p
end
theorem kn_new (w W : World) (hk : Kp w W []) (k : Nat) (h1 : 1 ≤ k) (h2 : k ≤ 100) : Calls Try.prog 9 #[.int .i64 k] W fun e w' => ∃ xb rb, e = .returned (.tuple #[.pointer (some ⟨xb, 0, none⟩), .int .i64 0]) ∧ Kn w w' xb rb k S0 L0 0 := by
  refine (tnew_ok W k h1 h2).mono ?_
  rintro e w' ⟨xb, rb, rfl, hT, hK, a1, a2⟩
  have := hk.size
  exact ⟨xb, rb, rfl, ⟨0, Nat.le_refl _, hT⟩, hk.trans hK, by omega, by omega⟩

/-! ### The law's runs -/
section
variable {w w' : World} {xb rb q s : Nat} {S : Sh} {L : Ls}
def runB (L : Ls) (t : Int) : Bool := fstB L && decide ((fstV L : Int) = t)
set_option maxRecDepth 100000 in
theorem Tn.lruns (h : Tn w xb rb q S L s) (hs : s ≤ 880000) (t : Int) : Calls Try.prog 15 #[.pointer (some ⟨xb, 0, none⟩), .int .i64 t] w fun e w' => e = .returned (.bool (runB L t)) ∧ To w w' xb rb q S L s 1 := by
  have cr := h.runs (by omega)
  unfold runB
  obtain ⟨v, hv⟩ : ∃ v, fstV L = v := ⟨_, rfl⟩
  obtain ⟨b, hb⟩ : ∃ b, fstB L = b := ⟨_, rfl⟩
  rw [hv, hb] at cr ⊢
  clear h hv hb
  by_cases ht : (v : Int) = t
  · have he : ((v : Int) == t) = true := by simp [ht]
    rw [show decide ((v : Int) = t) = true by simp [ht]]
    clear ht
    cases b with
    | true =>
      go_enter Try.func15, Try.ntmps15
      go_wp2_with fail
      refine cr.mono ?_
      rintro e w1 ⟨rfl, hT⟩
      have HT := hid hT
      clear hT cr
      go_wp2
      go_ret
      exact ⟨rfl, HT.out⟩
    | false =>
      go_enter Try.func15, Try.ntmps15
      go_wp2_with fail
      refine cr.mono ?_
      rintro e w1 ⟨rfl, hT⟩
      have HT := hid hT
      clear hT cr
      go_wp2
      go_ret
      exact ⟨rfl, HT.out⟩
  · have he : ((v : Int) == t) = false := by simp [ht]
    rw [show decide ((v : Int) = t) = false by simp [ht]]
    clear ht
    cases b with
    | true =>
      go_enter Try.func15, Try.ntmps15
      go_wp2_with fail
      refine cr.mono ?_
      rintro e w1 ⟨rfl, hT⟩
      have HT := hid hT
      clear hT cr
      go_wp2
      go_ret
      exact ⟨rfl, HT.out⟩
    | false =>
      go_enter Try.func15, Try.ntmps15
      go_wp2_with fail
      refine cr.mono ?_
      rintro e w1 ⟨rfl, hT⟩
      have HT := hid hT
      clear hT cr
      go_wp2
      go_ret
      exact ⟨rfl, HT.out⟩
end
theorem ns_l3 (w : World) (a b c : Nat) : Ns (w.alloc (.cells #[.int .i64 (a : Nat), .int .i64 (b : Nat), .int .i64 (c : Nat)] 3)) w.heap.size (.slice (some ⟨w.heap.size, 0, none⟩) 3 3) [a, b, c] :=
  ⟨⟨rfl, .inr ⟨w.heap.size, 3, _, rfl, Nat.le_refl _, heap_alloc_new w _, Nat.le_refl _, by unfold maxLen; omega, rfl, rfl⟩⟩, by simp⟩
end Go.Proofs.Ytclbphnelfacfaa
