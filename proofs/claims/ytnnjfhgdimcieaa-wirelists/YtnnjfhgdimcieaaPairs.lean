/- Lists of pairs: their form, there and back, on lists of numbers; no Go is walked here. -/
import Derived.Test.YtnnjfhgdimcieaaThings
namespace Go.Proofs.Ytnnjfhgdimcieaa
open Go.RowKit
set_option linter.unusedVariables false

/-- A pair of numbers below 2^64. -/
def Pr (p : Nat × Nat) : Prop := p.1 < 18446744073709551616 ∧ p.2 < 18446744073709551616
def formP (p : Nat × Nat) : List Int := num p.1 ++ num p.2
def flat (ps : List (Nat × Nat)) : List Int := ps.flatMap formP
def formL (ps : List (Nat × Nat)) : List Int := num ps.length ++ flat ps
def rpair (l : List Int) : Option ((Nat × Nat) × List Int) := match rnum 0 0 l with
  | none => none
  | some (a, r) => match rnum 0 0 r with
    | none => none
    | some (b, r') => some ((a, b), r')
def rplist : Nat → List Int → Option (List (Nat × Nat) × List Int)
  | 0, l => some ([], l)
  | n + 1, l => match rpair l with
    | none => none
    | some (x, r) => match rplist n r with
      | none => none
      | some (xs, r') => some (x :: xs, r')
def rptake (most : Int) (l : List Int) : Except Int (List (Nat × Nat) × List Int) := match rcnt most l with
  | .error e => .error e
  | .ok (n, r) => match rplist n r with
    | none => .error 4
    | some p => .ok p

theorem rpair_form {p : Nat × Nat} (h : Pr p) (r : List Int) : rpair (formP p ++ r) = some (p, r) := by
  unfold rpair formP
  rw [List.append_assoc, rnum_num _ _ h.1]
  simp only
  rw [rnum_num _ _ h.2]
theorem rplist_flat : ∀ (ps : List (Nat × Nat)) (r : List Int), (∀ p ∈ ps, Pr p) → rplist ps.length (flat ps ++ r) = some (ps, r)
  | [], r, _ => rfl
  | p :: ps, r, h => by
    have e : flat (p :: ps) ++ r = formP p ++ (flat ps ++ r) := by simp [flat]
    rw [e, List.length_cons, rplist, rpair_form (h p (by simp))]
    simp only
    rw [rplist_flat ps r (fun q hq => h q (by simp [hq]))]
theorem byt_flat : ∀ (ps : List (Nat × Nat)), (∀ p ∈ ps, Pr p) → Byt (flat ps)
  | [], _ => fun x hx => by simp [flat] at hx
  | p :: ps, h => by
    have e : flat (p :: ps) = formP p ++ flat ps := by simp [flat]
    rw [e]
    exact ((byt_num _ (h p (by simp)).1).append (byt_num _ (h p (by simp)).2)).append (byt_flat ps fun q hq => h q (by simp [hq]))
theorem num_len (n : Nat) : (num n).length ≤ 10 := digs_le 9 n
theorem flat_len : ∀ (ps : List (Nat × Nat)), (flat ps).length ≤ 20 * ps.length
  | [] => by simp [flat]
  | p :: ps => by
    have e : flat (p :: ps) = formP p ++ flat ps := by simp [flat]
    have h1 := num_len p.1
    have h2 := num_len p.2
    have h3 := flat_len ps
    rw [e]
    simp [formP]
    omega
theorem byt_formL {ps : List (Nat × Nat)} (h : ∀ p ∈ ps, Pr p) (hn : ps.length < 18446744073709551616) : Byt (formL ps) := (byt_num _ hn).append (byt_flat ps h)

theorem rnum_ext {l r s : List Int} {x : Nat} (hb : Byt l) (h : rnum 0 0 l = some (x, r)) : rnum 0 0 (l ++ s) = some (x, r ++ s) := by
  have e := num_rnum hb h
  have hx := rnum_bound hb (by omega) Nat.zero_lt_one h
  rw [e, List.append_assoc]
  exact rnum_num _ _ hx
theorem rpair_ext {l r s : List Int} {x : Nat × Nat} (hb : Byt l) (h : rpair l = some (x, r)) : rpair (l ++ s) = some (x, r ++ s) ∧ Byt r ∧ r.length + 1 ≤ l.length := by
  unfold rpair at h ⊢
  split at h
  · cases h
  · rename_i a r1 h1
    split at h
    · cases h
    · rename_i b r2 h2
      cases h
      have hs := rnum_shorter hb h1
      have hs2 := rnum_shorter hs.2 h2
      rw [rnum_ext hb h1]
      simp only
      rw [rnum_ext hs.2 h2]
      exact ⟨rfl, hs2.2, by omega⟩
theorem rplist_ext : ∀ (n : Nat) {l r s : List Int} {xs : List (Nat × Nat)}, Byt l → rplist n l = some (xs, r) → rplist n (l ++ s) = some (xs, r ++ s)
  | 0, l, r, s, xs, _, h => by
    rw [rplist] at h ⊢
    cases h
    rfl
  | n + 1, l, r, s, xs, hb, h => by
    rw [rplist] at h ⊢
    split at h
    · cases h
    · rename_i x r1 h1
      split at h
      · cases h
      · rename_i ys r2 h2
        cases h
        obtain ⟨e1, hb1, -⟩ := rpair_ext (s := s) hb h1
        rw [e1]
        simp only
        rw [rplist_ext n hb1 h2]

theorem rptake_all {ps : List (Nat × Nat)} (h : ∀ p ∈ ps, Pr p) (hn : ps.length < 18446744073709551616) : rptake (ps.length : Int) (formL ps) = .ok (ps, []) := by
  unfold rptake rcnt formL
  rw [if_neg (by omega), rnum_num _ _ hn]
  simp only
  rw [if_neg (by omega)]
  simp only
  have := rplist_flat ps [] h
  rw [List.append_nil] at this
  rw [this]
theorem rptake_fewer {ps : List (Nat × Nat)} (hp : 0 < ps.length) (hn : ps.length < 18446744073709551616) : rptake ((ps.length : Int) - 1) (formL ps) = .error 3 := by
  unfold rptake rcnt formL
  rw [if_neg (by omega), rnum_num _ _ hn]
  simp only
  rw [if_pos (by omega)]
theorem rptake_cut {ps : List (Nat × Nat)} (h : ∀ p ∈ ps, Pr p) (hn : ps.length < 18446744073709551616) {c : Nat} (hc : c < (formL ps).length) : rptake (ps.length : Int) ((formL ps).take c) = .error 4 := by
  have hB := byt_formL h hn
  obtain ⟨l, hl⟩ : ∃ l, l = (formL ps).take c := ⟨_, rfl⟩
  obtain ⟨s, hs⟩ : ∃ s, s = (formL ps).drop c := ⟨_, rfl⟩
  have hL : formL ps = l ++ s := by rw [hl, hs, List.take_append_drop]
  have hsn : s ≠ [] := by
    intro e
    rw [e] at hs
    have := congrArg List.length hs
    simp at this
    omega
  have hbl : Byt l := fun x hx => hB x (by rw [hL]; exact List.mem_append_left _ hx)
  rw [← hl]
  unfold rptake rcnt
  rw [if_neg (by omega)]
  cases h1 : rnum 0 0 l with
  | none => rfl
  | some p =>
    obtain ⟨m, r⟩ := p
    have e1 := rnum_ext (s := s) hbl h1
    rw [← hL] at e1
    have e2 : rnum 0 0 (formL ps) = some (ps.length, flat ps) := rnum_num _ _ hn
    rw [e2] at e1
    simp only [Option.some.injEq, Prod.mk.injEq] at e1
    obtain ⟨rfl, hfl⟩ := e1
    simp only
    rw [if_neg (by omega)]
    simp only
    cases h2 : rplist ps.length r with
    | none => rfl
    | some q =>
      exfalso
      obtain ⟨qs, r2⟩ := q
      have e3 := rplist_ext ps.length (s := s) (rnum_shorter hbl h1).2 h2
      rw [← hfl] at e3
      have e4 := rplist_flat ps [] h
      rw [List.append_nil] at e4
      rw [e4] at e3
      simp only [Option.some.injEq, Prod.mk.injEq] at e3
      have := e3.2.symm
      simp at this
      exact hsn this.2
end Go.Proofs.Ytnnjfhgdimcieaa
