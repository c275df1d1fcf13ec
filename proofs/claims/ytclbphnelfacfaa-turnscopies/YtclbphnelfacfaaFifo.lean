/- Nobody is a robin: plainly; the reference's May; a list of numbers that came in. -/
import Derived.Test.YtclbphnelfacfaaArgs
namespace Go.Proofs.Ytclbphnelfacfaa
open Go.RowKit Go.Shelf Go.ChangeShapes Go.WideShapes Go.ChangeAt

/-- No robin: a tick changes nothing. -/
theorem tick_none {L : Ls} {S : Sh} (q : Nat) (h : ∀ t, (S t).1 = false) : tkB L S = false ∧ tkV L S = 0 ∧ tkL L S = L ∧ tkS q L S = S := by
  have h1 : tkG L S = false := by unfold tkG; rw [h]; simp
  have h2 : tkB L S = false := by unfold tkB; rw [h1]; rfl
  refine ⟨h2, ?_, ?_, ?_⟩
  · unfold tkV; rw [h2]; rfl
  · unfold tkL; rw [h2]; rfl
  · unfold tkS; rw [h1]; rfl
/-- All threads below n, each added with its priority. -/
def fL (S : Nat → Int) : Nat → Ls
  | 0 => L0
  | n + 1 => putL false (fL S n) (S n) n
def bst (S : Nat → Int) : Nat → Int
  | 0 => -1
  | n + 1 => if (1 ≤ S n ∧ S n ≤ 31) ∧ (bst S n < 0 ∨ S (bst S n).toNat < S n) then n else bst S n
theorem fL_mem (S : Nat → Int) : ∀ n p x, x ∈ fL S n p → x < n
  | 0, p, x, h => by cases h
  | n + 1, p, x, h => by
    have ih := fL_mem S n
    rw [fL] at h
    rcases put_cases false (fL S n) (S n) n with ⟨-, -, e⟩ | ⟨P, T, -, e2, -, -, -, ⟨-, -, e⟩ | ⟨-, -, e⟩⟩
    · rw [e] at h
      have := ih p x h
      omega
    · rw [e] at h
      have := ih p x h
      omega
    · rw [e] at h
      have hT : T = n := (Int.ofNat_inj.1 e2).symm
      subst hT
      by_cases ep : p = P
      · subst ep
        rw [updL_same] at h
        simp only [Bool.false_eq_true, if_false, List.mem_append, List.mem_singleton] at h
        rcases h with h | h
        · have := ih p x h
          omega
        · omega
      · rw [updL_ne _ _ ep] at h
        have := ih p x h
        omega
/-- Who is first. -/
def Bs (S : Nat → Int) (L : Ls) (b : Int) : Prop := (b < 0 ∧ ∀ p, L p = []) ∨ ∃ (t p : Nat) (l : List Nat), b = t ∧ S t = p ∧ 1 ≤ p ∧ p ≤ 31 ∧ L p = t :: l ∧ ∀ p', p < p' → L p' = []
theorem bs_at (S : Nat → Int) : ∀ n, n ≤ 16 → Bs S (fL S n) (bst S n)
  | 0, _ => .inl ⟨by show (-1 : Int) < 0; decide, fun _ => rfl⟩
  | n + 1, h => by
    have ih := bs_at S n (by omega)
    have hm := fL_mem S n
    rw [fL, bst]
    generalize fL S n = L at ih hm ⊢
    generalize bst S n = b at ih ⊢
    rcases put_cases false L (S n) n with ⟨ha, -, e⟩ | ⟨P, T, e1, e2, p1, p2, -, ⟨h0, -, -⟩ | ⟨-, -, e⟩⟩
    · rw [e, if_neg (fun hh => ha ⟨hh.1, by omega, by omega⟩)]
      exact ih
    · exfalso
      have hT : T = n := (Int.ofNat_inj.1 e2).symm
      subst hT
      exact h0 (prN_none fun p _ _ hx => Nat.lt_irrefl _ (hm p T hx))
    · have hT : T = n := (Int.ofNat_inj.1 e2).symm
      subst hT
      simp only [Bool.false_eq_true, if_false] at e
      rw [e]
      rcases ih with ⟨hb, hL⟩ | ⟨t, p, l, rfl, hS, q1, q2, hL, hgt⟩
      · rw [if_pos ⟨⟨by omega, by omega⟩, .inl hb⟩]
        refine .inr ⟨T, P, [], rfl, e1, p1, p2, ?_, fun p' hp => ?_⟩
        · rw [updL_same, hL P]
          rfl
        · rw [updL_ne _ _ (by omega), hL p']
      · have hne : ¬ ((t : Int) < 0) := by omega
        by_cases hlt : p < P
        · rw [if_pos ⟨⟨by omega, by omega⟩, .inr (by rw [Int.toNat_natCast, hS, e1]; omega)⟩]
          refine .inr ⟨T, P, [], rfl, e1, p1, p2, ?_, fun p' hp => ?_⟩
          · rw [updL_same, hgt P hlt]
            rfl
          · rw [updL_ne _ _ (by omega), hgt p' (by omega)]
        · rw [if_neg (by rintro ⟨-, h | h⟩; exact hne h; rw [Int.toNat_natCast, hS, e1] at h; omega)]
          by_cases hep : p = P
          · subst hep
            exact .inr ⟨t, p, l ++ [T], rfl, hS, q1, q2, by rw [updL_same, hL]; rfl, fun p' hp => by rw [updL_ne _ _ (by omega), hgt p' hp]⟩
          · exact .inr ⟨t, p, l, rfl, hS, q1, q2, by rw [updL_ne _ _ hep, hL], fun p' hp => by rw [updL_ne _ _ (by omega), hgt p' hp]⟩
theorem bs_first {S : Nat → Int} {L : Ls} {b : Int} (h : Bs S L b) : (b < 0 ∧ fstB L = false) ∨ (∃ t : Nat, b = t ∧ fstB L = true ∧ fstV L = t) := by
  rcases h with ⟨hb, hL⟩ | ⟨t, p, l, rfl, -, q1, q2, hL, hgt⟩
  · refine .inl ⟨hb, ?_⟩
    unfold fstB
    rw [seqs_none (fun p _ _ => hL p)]
    rfl
  · have e := seqs_head (k := 31) q1 q2 hL (fun p' hp _ => hgt p' hp)
    refine .inr ⟨t, rfl, ?_, ?_⟩
    · unfold fstB; rw [e]; rfl
    · unfold fstV; rw [e]; rfl
theorem fL_add (S : Nat → Int) (n : Nat) : putL false (fL S n) (S n) n = fL S (n + 1) := rfl
theorem addS_no {q : Nat} {S : Sh} (L : Ls) (t p : Int) (h : ∀ t, (S t).1 = false) : ∀ x, (addS q S L t p false x).1 = false := fun x => by
  unfold addS
  split
  · unfold updS
    split
    · rfl
    · exact h x
  · exact h x

theorem bst_lt (S : Nat → Int) : ∀ n : Nat, bst S n < n
  | 0 => by show (-1 : Int) < 0; decide
  | n + 1 => by
    have := bst_lt S n
    rw [bst]
    split <;> omega

/-! ### The reference's May -/
set_option maxRecDepth 100000 in
theorem rmay_any (w : World) (t p : Int) : Calls Try.prog 22 #[.int .i64 t, .int .i64 p] w fun e w' => e = .returned (.bool (decide ((0 ≤ t ∧ t < 16) ∧ (1 ≤ p ∧ p ≤ 31)))) ∧ w' = w := by
  by_cases h0 : 0 ≤ t <;> by_cases h1 : t < 16 <;> by_cases h2 : 1 ≤ p <;> by_cases h3 : p ≤ 31
  all_goals
    first
      | rw [show decide ((0 ≤ t ∧ t < 16) ∧ (1 ≤ p ∧ p ≤ 31)) = true from decide_eq_true ⟨⟨h0, h1⟩, h2, h3⟩]
      | rw [show decide ((0 ≤ t ∧ t < 16) ∧ (1 ≤ p ∧ p ≤ 31)) = false from decide_eq_false (fun hh => absurd hh.1.1 h0)]
      | rw [show decide ((0 ≤ t ∧ t < 16) ∧ (1 ≤ p ∧ p ≤ 31)) = false from decide_eq_false (fun hh => absurd hh.1.2 h1)]
      | rw [show decide ((0 ≤ t ∧ t < 16) ∧ (1 ≤ p ∧ p ≤ 31)) = false from decide_eq_false (fun hh => absurd hh.2.1 h2)]
      | rw [show decide ((0 ≤ t ∧ t < 16) ∧ (1 ≤ p ∧ p ≤ 31)) = false from decide_eq_false (fun hh => absurd hh.2.2 h3)]
    go_enter Try.func22, Try.ntmps22
    go_wp2
    go_ret
    exact ⟨rfl, rfl⟩

/-! ### Numbers that came in -/
def Si (w : World) (V : Value) (n : Nat) (S : Nat → Int) : Prop :=
  ∃ ao cap, V = .slice ao n cap ∧ n ≤ cap ∧ (0 < n → ∃ b off, ao = some ⟨b, off, none⟩ ∧ ∀ i, i < n → w.cell? ⟨b, off + i, none⟩ = some (.int .i64 (S i)))
theorem Si.shape {w : World} {V : Value} {n : Nat} {S : Nat → Int} (h : Si w V n S) : ∃ ao cap, V = .slice ao n cap := by
  obtain ⟨ao, cap, rfl, -⟩ := h
  exact ⟨ao, cap, rfl⟩
theorem Si.keep {w w' : World} {V : Value} {n : Nat} {S : Nat → Int} (h : Si w V n S) (hk : Kp w w' []) : Si w' V n S := by
  obtain ⟨ao, cap, rfl, h1, h2⟩ := h
  refine ⟨ao, cap, rfl, h1, fun h0 => ?_⟩
  obtain ⟨b, off, rfl, hc⟩ := h2 h0
  exact ⟨b, off, rfl, fun i hi => hk.cell (hc i hi) (by simp)⟩
theorem Si.at {w : World} {ao : Option Addr} {cap : Nat} {n : Nat} {S : Nat → Int} (h : Si w (.slice ao n cap) n S) {i : Nat} (hi : i < n) : ∃ b off, ao = some ⟨b, off, none⟩ ∧ w.cell? ⟨b, off + i, none⟩ = some (.int .i64 (S i)) := by
  obtain ⟨ao', cap', hv, h1, h2⟩ := h
  simp only [Value.slice.injEq, true_and] at hv
  obtain ⟨rfl, rfl⟩ := hv
  obtain ⟨b, off, rfl, hc⟩ := h2 (by omega)
  exact ⟨b, off, rfl, hc i hi⟩
theorem Si.at2 {w : World} {b off cap : Nat} {n : Nat} {S : Nat → Int} (h : Si w (.slice (some ⟨b, off, none⟩) n cap) n S) {i : Nat} (hi : i < n) : w.cell? ⟨b, off + i, none⟩ = some (.int .i64 (S i)) := by
  obtain ⟨b', off', e, hc⟩ := h.at hi
  cases e
  exact hc
theorem si_of_trod {H : Type} {enc : TypeId × Value → H} {W : World} {base fuel : Nat} {spare : TypeId → Bool} {held : Bool} {V : Value} {d : DataW H} {p : List MemPlace}
    (hf : DataW.trod enc Try.prog W base spare held fuel 40 [V] = some (d, p)) : ∃ n S, Si W V n S ∧ n ≤ maxLen := by
  rcases Go.Deep.open_slice Try.underlying40 hf with ⟨hcs, hx⟩ | ⟨a, len, cap, m, nf, D, Pl, hcs, hb, hl, hm, hmm, hx, hel⟩
  · simp only [List.cons.injEq, and_true] at hcs
    subst hcs
    exact ⟨0, fun _ => 0, ⟨none, 0, rfl, Nat.le_refl _, fun h => by omega⟩, by unfold maxLen; omega⟩
  · simp only [List.cons.injEq, and_true] at hcs
    subst hcs
    have hC : Try.prog.cellsOf 3 = 1 := by kernel_rfl
    rw [hC] at hel
    have hlm : len ≤ m := by rw [hmm]; split <;> omega
    obtain ⟨S, hS⟩ := Go.Deep.choose_lt (n := len) (p := fun i (s : Int) => W.cells? base (a.add (i * 1)) 1 = some [.int .i64 s]) (fun i hi => by
      obtain ⟨cs', h1, h2⟩ := hel i (by omega)
      obtain ⟨k, rfl, -, -⟩ := DataW.trod_int Try.underlying3 h2
      exact ⟨k, h1⟩)
    refine ⟨len, S, ⟨some a, cap, rfl, hl, fun h0 => ?_⟩, by omega⟩
    obtain ⟨b, off, spot⟩ := a
    have hspot : spot = none := by
      have := (World.cells?_some (hS 0 h0)).2.2 0 (by decide)
      have h2 := World.cell?_spot (v := .int .i64 (S 0)) (by simpa using this)
      simpa [Addr.add] using h2
    subst hspot
    refine ⟨b, off, rfl, fun i hi => ?_⟩
    have hc := (World.cells?_some (hS i hi)).2.2 0 (by decide)
    simpa [Addr.add_lit] using hc
end Go.Proofs.Ytclbphnelfacfaa
