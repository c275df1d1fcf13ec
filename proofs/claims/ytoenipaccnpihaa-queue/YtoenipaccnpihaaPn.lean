/- The place of the next one, as the reference finds it: plain. -/
import Derived.Test.YtoenipaccnpihaaPl
namespace Go.Proofs.Ytoenipaccnpihaa

theorem take_some {L : El} {i : Nat} {x : Nat × Nat × Int} (h : L[i]? = some x) : L.take (i + 1) = L.take i ++ [x] := by
  rw [List.take_add_one, h]
  rfl
theorem pend_take {L : El} {i t : Nat} {x : Nat × Nat × Int} (h : L[i]? = some x) : pend (L.take (i + 1)) t = if x.1 = t then pend (L.take i) t ||| 2 ^ x.2.1 else pend (L.take i) t := by
  rw [take_some h]
  unfold pend
  rw [List.foldl_append]
  rfl
theorem used_take {L : El} {i : Nat} {x : Nat × Nat × Int} (h : L[i]? = some x) : used (L.take (i + 1)) = used (L.take i) + if 16 ≤ x.2.1 then 1 else 0 := by
  rw [take_some h]
  unfold used
  rw [List.countP_append]
  simp [List.countP_cons]
/-- Does it count? -/
def fits (t W : Nat) (x : Nat × Nat × Int) : Bool := decide (x.1 = t) && W.testBit x.2.1
/-- The best one among so many: the lowest number, the first one of it. -/
def plc (t W : Nat) (L : El) : Nat → Option Nat
  | 0 => none
  | i + 1 => match L[i]? with
    | none => plc t W L i
    | some x => if fits t W x then (match plc t W L i with
        | none => some i
        | some k => if x.2.1 < (L[k]?.map (·.2.1)).getD 0 then some i else some k) else plc t W L i
def plI (t W : Nat) (L : El) (i : Nat) : Int := match plc t W L i with
  | none => -1
  | some k => k
structure PlcOk (t W : Nat) (L : El) (i : Nat) : Prop where
  no : plc t W L i = none → ∀ j x, j < i → L[j]? = some x → fits t W x = false
  yes : ∀ k, plc t W L i = some k → k < i ∧ ∃ x, L[k]? = some x ∧ fits t W x = true ∧ ∀ j y, j < i → L[j]? = some y → fits t W y = true → x.2.1 ≤ y.2.1 ∧ (j < k → x.2.1 < y.2.1)
theorem plc_ok (t W : Nat) (L : El) : ∀ i, i ≤ L.length → PlcOk t W L i
  | 0, _ => ⟨fun _ j x hj => by omega, fun k h => by simp [plc] at h⟩
  | i + 1, hi => by
    have ih := plc_ok t W L i (by omega)
    have hx : L[i]? = some L[i] := List.getElem?_eq_getElem (by omega)
    generalize L[i] = x at hx
    have e : plc t W L (i + 1) = if fits t W x then (match plc t W L i with
        | none => some i
        | some k => if x.2.1 < (L[k]?.map (·.2.1)).getD 0 then some i else some k) else plc t W L i := by
      conv => lhs; unfold plc
      rw [hx]
    by_cases hf : fits t W x = true
    · rw [if_pos hf] at e
      cases hp : plc t W L i with
      | none =>
        rw [hp] at e
        simp only at e
        refine ⟨fun h => (by rw [e] at h; cases h), fun k hk => ?_⟩
        rw [e] at hk
        obtain rfl : i = k := by simpa using hk
        refine ⟨by omega, x, hx, hf, fun j y hj hy hfy => ?_⟩
        by_cases hji : j = i
        · subst hji
          rw [hx] at hy
          cases hy
          exact ⟨Nat.le_refl _, fun h => by omega⟩
        · have := ih.no hp j y (by omega) hy
          rw [this] at hfy
          cases hfy
      | some k0 =>
        rw [hp] at e
        simp only at e
        obtain ⟨hk0, x0, hx0, hf0, hall⟩ := ih.yes k0 hp
        rw [hx0] at e
        simp only [Option.map_some, Option.getD_some] at e
        refine ⟨fun h => (by rw [e] at h; split at h <;> cases h), fun k hk => ?_⟩
        rw [e] at hk
        split at hk
        · rename_i hlt
          obtain rfl : i = k := by simpa using hk
          refine ⟨by omega, x, hx, hf, fun j y hj hy hfy => ?_⟩
          by_cases hji : j = i
          · subst hji
            rw [hx] at hy
            cases hy
            exact ⟨Nat.le_refl _, fun h => by omega⟩
          · have := hall j y (by omega) hy hfy
            exact ⟨by omega, fun _ => by omega⟩
        · rename_i hge
          obtain rfl : k0 = k := by simpa using hk
          refine ⟨by omega, x0, hx0, hf0, fun j y hj hy hfy => ?_⟩
          by_cases hji : j = i
          · subst hji
            rw [hx] at hy
            cases hy
            exact ⟨by omega, fun h => by omega⟩
          · exact hall j y (by omega) hy hfy
    · rw [if_neg hf] at e
      have hf' : fits t W x = false := by simpa using hf
      refine ⟨fun h j y hj hy => ?_, fun k hk => ?_⟩
      · rw [e] at h
        by_cases hji : j = i
        · subst hji
          rw [hx] at hy
          cases hy
          exact hf'
        · exact ih.no h j y (by omega) hy
      · rw [e] at hk
        obtain ⟨hk0, x0, hx0, hf0, hall⟩ := ih.yes k hk
        refine ⟨by omega, x0, hx0, hf0, fun j y hj hy hfy => ?_⟩
        by_cases hji : j = i
        · subst hji
          rw [hx] at hy
          cases hy
          rw [hf'] at hfy
          cases hfy
        · exact hall j y (by omega) hy hfy
theorem erase_at {L : El} {k t n : Nat} {x : Nat × Nat × Int} (hx : L[k]? = some x) (h1 : x.1 = t) (h2 : x.2.1 = n) (h : ∀ j y, j < k → L[j]? = some y → ¬ (y.1 = t ∧ y.2.1 = n)) : L.take k ++ L.drop (k + 1) = rm L t n ∧ hdv L t n = x.2.2 := by
  induction L generalizing k with
  | nil => simp at hx
  | cons y L ih =>
    cases k with
    | zero =>
      simp at hx
      subst hx
      unfold rm hdv
      rw [List.eraseP_cons_of_pos (by simp [h1, h2]), q_cons, if_pos ⟨h1, h2⟩]
      simp
    | succ k =>
      have h0 := h 0 y (by omega) (by simp)
      obtain ⟨a, b⟩ := ih (k := k) (by simpa using hx) (fun j z hj hz => h (j + 1) z (by omega) (by simpa using hz))
      unfold rm hdv at *
      rw [List.eraseP_cons_of_neg (by simpa using h0), q_cons, if_neg h0]
      simp only [List.take_succ_cons, List.drop_succ_cons, List.cons_append]
      exact ⟨by rw [a], b⟩
/-- Where the next one is, in the program's words. -/
theorem plc_low {T S : Nat} {L : El} (hok : Ok T S L) (t W : Nat) : (plc t W L L.length = none ∧ low L t W = 32) ∨ ∃ k x, plc t W L L.length = some k ∧ k < L.length ∧ L[k]? = some x ∧ low L t W = x.2.1 ∧ x.1 = t ∧ x.2.1 < 32 ∧ L.take k ++ L.drop (k + 1) = rm L t x.2.1 ∧ hdv L t x.2.1 = x.2.2 := by
  have h := plc_ok t W L L.length (Nat.le_refl _)
  cases hp : plc t W L L.length with
  | none =>
    left
    refine ⟨rfl, low_no fun m h1 h2 e => ?_⟩
    obtain ⟨x, hx, e1, e2⟩ := q_ne.1 e.2
    obtain ⟨j, hj⟩ := List.getElem?_of_mem hx
    have := h.no hp j x (List.getElem?_eq_some_iff.1 hj).1 hj
    unfold fits at this
    rw [decide_eq_true e1, e2, e.1] at this
    cases this
  | some k =>
    right
    obtain ⟨hk, x, hx, hf, hall⟩ := h.yes k hp
    have hxm : x ∈ L := List.mem_of_getElem? hx
    have hin := hok.inn x hxm
    unfold fits at hf
    simp only [Bool.and_eq_true, decide_eq_true_eq] at hf
    have hmem : ∀ m, q L t m ≠ [] → W.testBit m = true → x.2.1 ≤ m := fun m hq hw => by
      obtain ⟨y, hy, e1, e2⟩ := q_ne.1 hq
      obtain ⟨j, hj⟩ := List.getElem?_of_mem hy
      have := (hall j y (List.getElem?_eq_some_iff.1 hj).1 hj (by unfold fits; simp [e1, e2, hw])).1
      omega
    have hlow : low L t W = x.2.1 := low_of hin.2.1 hin.2.2 hf.2 (q_ne.2 ⟨x, hxm, hf.1, rfl⟩) fun m h1 h2 e => by
      have := hmem m e.2 e.1
      omega
    obtain ⟨e1, e2⟩ := erase_at (t := t) (n := x.2.1) hx hf.1 rfl fun j y hj hy e => by
      have := (hall j y (by omega) hy (by unfold fits; simp [e.1, e.2, hf.2])).2 hj
      omega
    exact ⟨k, x, rfl, hk, hx, hlow, hf.1, by omega, e1, e2⟩
end Go.Proofs.Ytoenipaccnpihaa
