/- Handles that were given, those that are gone: plain facts. -/
import Derived.Test.YtaofpijcjohnhaaChange
import Derived.Test.YtaofpijcjohnhaaArr
namespace Go.Proofs.Ytaofpijcjohnhaa

theorem low_free {T : Pl} {m i k : Nat} (h : low T m i = k) (hk : k < i + m) : (T k).1 = false := by
  induction m generalizing i with
  | zero => simp [low] at h; omega
  | succ m ih =>
    unfold low at h
    split at h
    · exact ih h (by omega)
    · rename_i hf
      subst h
      simpa using hf
theorem tkp_upd_le (T : Pl) (i : Nat) (v : Bool × Int) (K : Nat) (h : K ≤ i) : tkp (upd T i v) K = tkp T K := by
  induction K with
  | zero => rfl
  | succ K ih => rw [tkp, tkp, upd_ne T v (show K ≠ i by omega), ih (by omega)]
theorem tkp_take (T : Pl) (i : Nat) (g : Int) (K : Nat) (hi : i < K) (hf : (T i).1 = false) : (tkp (upd T i (true, g)) K).length = (tkp T K).length + 1 := by
  induction K with
  | zero => omega
  | succ K ih =>
    rw [tkp, tkp]
    by_cases h : i = K
    · subst h
      rw [upd_same, if_pos rfl, if_neg (by simp [hf]), tkp_upd_le _ _ _ _ (Nat.le_refl _)]
      simp
    · rw [upd_ne T _ (show K ≠ i by omega)]
      have := ih (by omega)
      split
      · simp [this]
      · exact this
theorem tkp_free (T : Pl) (i : Nat) (g : Int) (K : Nat) (hi : i < K) (hf : (T i).1 = true) : (tkp (upd T i (false, g)) K).length + 1 = (tkp T K).length := by
  induction K with
  | zero => omega
  | succ K ih =>
    rw [tkp, tkp]
    by_cases h : i = K
    · subst h
      rw [upd_same, if_neg (by simp), if_pos hf, tkp_upd_le _ _ _ _ (Nat.le_refl _)]
      simp
    · rw [upd_ne T _ (show K ≠ i by omega)]
      have := ih (by omega)
      split
      · simp; omega
      · exact this

theorem tmod_of {p : Nat} {g : Int} (hp : p < 16) (hg : 0 ≤ g) : ((p : Int) + 16 * g).tmod 16 = p := by
  rw [Int.tmod_eq_emod_of_nonneg (by omega)]
  omega
/-- Is the number the handle of its place? -/
theorem atB_of {T : Pl} {n p : Nat} {g : Int} (hp : p < n) (hn : n ≤ 16) (hg : 0 ≤ g) : atB T n (p + 16 * g) = ((T p).1 && g == (T p).2) := by
  unfold atB
  rw [tmod_of (by omega) hg]
  cases ht : (T p).1 with
  | false =>
    rw [(ofB_false (T := T) (n := n) (i := p) (by simp [ht])).1]
    simp
  | true =>
    obtain ⟨e1, e2⟩ := ofB_true (T := T) (n := n) (i := p) (by omega) (by omega) (by simpa using ht)
    rw [e1, e2]
    simp only [Int.toNat_natCast, Bool.true_and]
    by_cases h : g = (T p).2
    · rw [← h]; simp
    · have : ¬ (p : Int) + 16 * (T p).2 = p + 16 * g := by omega
      rw [beq_eq_false_iff_ne.2 this, beq_eq_false_iff_ne.2 h]
theorem atV_of {T : Pl} {n p : Nat} {g : Int} (hp : p < 16) (hg : 0 ≤ g) (h : atB T n (p + 16 * g) = true) : atV T n (p + 16 * g) = p := by
  unfold atV
  rw [if_pos h, tmod_of hp hg]

/-- What was given is of a place and a generation of it; gone is what is not its place's handle. -/
structure Inv (n : Nat) (s : Int) (T : Pl) (G : List Int) (B : List Bool) : Prop where
  len : G.length = B.length
  wf : ∀ i, n ≤ i → (T i).1 = false
  gd : ∀ i, i < 16 → 0 ≤ (T i).2 ∧ (T i).2 ≤ s
  at_ : ∀ k, k < G.length → ∃ (p : Nat) (g : Int), p < n ∧ 1 ≤ g ∧ g ≤ (T p).2 ∧ G.getD k 0 = p + 16 * g ∧ B.getD k false = !((T p).1 && g == (T p).2)
  nodup : G.Nodup
  cnt : B.count false = (tkp T 16).length
theorem Inv.gd' {n : Nat} {s : Int} {T : Pl} {G : List Int} {B : List Bool} (h : Inv n s T G B) (hs : s ≤ 1000000) : Gd T := fun i hi => ⟨(h.gd i hi).1, Int.le_trans (h.gd i hi).2 hs⟩
theorem Inv.mono {n : Nat} {s s' : Int} {T : Pl} {G : List Int} {B : List Bool} (h : Inv n s T G B) (hs : s ≤ s') : Inv n s' T G B :=
  ⟨h.len, h.wf, fun i hi => ⟨(h.gd i hi).1, Int.le_trans (h.gd i hi).2 hs⟩, h.at_, h.nodup, h.cnt⟩
theorem inv0 (n : Nat) : Inv n 0 T0 [] [] := ⟨rfl, fun _ _ => rfl, fun _ _ => ⟨Int.le_refl 0, Int.le_refl 0⟩, fun k hk => absurd hk (by simp), List.nodup_nil, by rw [tkp_none (fun _ _ => rfl)]; rfl⟩
theorem Inv.look {n : Nat} {s : Int} {T : Pl} {G : List Int} {B : List Bool} (h : Inv n s T G B) (hn : n ≤ 16) (k : Nat) (hk : k < G.length) :
    atB T n (G.getD k 0) = !(B.getD k false) ∧ (B.getD k false = false → ∃ p : Nat, p < n ∧ atV T n (G.getD k 0) = p ∧ (G.getD k 0).tmod 16 = p ∧ (T p).1 = true) := by
  obtain ⟨p, g, hp, hg1, hg2, hG, hB⟩ := h.at_ k hk
  rw [hG, hB, atB_of hp hn (by omega)]
  refine ⟨by simp, fun hf => ⟨p, hp, ?_, tmod_of (by omega) (by omega), ?_⟩⟩
  · exact atV_of (by omega) (by omega) (by rw [atB_of hp hn (by omega)]; simpa using hf)
  · simp at hf
    exact hf.1
theorem getD_snoc {α : Type} (l : List α) (x d : α) (k : Nat) : (l ++ [x]).getD k d = if k < l.length then l.getD k d else if k = l.length then x else d := by
  by_cases h : k < l.length
  · simp [List.getD_eq_getElem?_getD, List.getElem?_append_left h, h]
  · by_cases h2 : k = l.length
    · subst h2; simp [List.getD_eq_getElem?_getD]
    · rw [if_neg h, if_neg h2]
      rw [List.getD_eq_getElem?_getD, List.getElem?_eq_none (by simp; omega)]
      rfl
/-- The new handle was not given. -/
theorem Inv.fresh {n : Nat} {s : Int} {T : Pl} {G : List Int} {B : List Bool} (h : Inv n s T G B) (hn : n ≤ 16) {k : Nat} (hk : k < n) (j : Nat) (hj : j < G.length) : G.getD j 0 ≠ k + 16 * ((T k).2 + 1) := by
  obtain ⟨p, g, hp, hg1, hg2, hG, hB⟩ := h.at_ j hj
  rw [hG]
  intro e
  have : p = k := by omega
  subst this
  omega
theorem Inv.add {n : Nat} {s : Int} {T : Pl} {G : List Int} {B : List Bool} (h : Inv n s T G B) (hn : n ≤ 16) {k : Nat} (hk : k < n) (hf : (T k).1 = false) :
    Inv n (s + 1) (upd T k (true, (T k).2 + 1)) (G ++ [k + 16 * ((T k).2 + 1)]) (B ++ [false]) := by
  have hg := h.gd k (by omega)
  refine ⟨by simp [h.len], fun i hi => ?_, fun i hi => ?_, fun j hj => ?_, ?_, ?_⟩
  · rw [upd_ne T _ (by omega)]; exact h.wf i hi
  · by_cases e : i = k
    · subst e; rw [upd_same]; simp only; omega
    · rw [upd_ne T _ e]; have := h.gd i hi; omega
  · rw [getD_snoc, getD_snoc, ← h.len]
    by_cases hj' : j < G.length
    · rw [if_pos hj', if_pos hj']
      obtain ⟨p, g, hp, hg1, hg2, hG, hB⟩ := h.at_ j hj'
      by_cases e : p = k
      · subst e
        refine ⟨p, g, hp, hg1, by rw [upd_same]; simp only; omega, hG, ?_⟩
        rw [hB, upd_same, hf]
        have : (g == (T p).2 + 1) = false := by simp; omega
        simp [this]
      · refine ⟨p, g, hp, hg1, by rw [upd_ne T _ e]; exact hg2, hG, ?_⟩
        rw [hB, upd_ne T _ e]
    · simp at hj
      have : j = G.length := by omega
      rw [if_neg hj', if_neg hj', if_pos this, if_pos this]
      refine ⟨k, (T k).2 + 1, hk, by omega, by rw [upd_same]; exact Int.le_refl _, rfl, ?_⟩
      rw [upd_same]
      simp
  · rw [List.nodup_append]
    refine ⟨h.nodup, by simp, ?_⟩
    intro a ha b hb e
    simp at hb
    subst hb
    obtain ⟨j, hj, rfl⟩ := List.getElem_of_mem ha
    exact h.fresh hn hk j hj (by rw [← e]; simp [List.getD_eq_getElem?_getD, hj])
  · rw [tkp_take T k _ 16 (by omega) hf, ← h.cnt]
    simp [List.count_append]
theorem count_set {B : List Bool} {j : Nat} (hj : j < B.length) (hf : B.getD j false = false) : (B.set j true).count false + 1 = B.count false := by
  induction B generalizing j with
  | nil => simp at hj
  | cons b B ih =>
    cases j with
    | zero =>
      simp at hf
      subst hf
      simp
    | succ j =>
      have := ih (j := j) (by simpa using hj) (by simpa using hf)
      simp only [List.set_cons_succ, List.count_cons]
      omega
theorem getD_set {B : List Bool} {j i : Nat} : (B.set j true).getD i false = if i = j ∧ j < B.length then true else B.getD i false := by
  rw [List.getD_eq_getElem?_getD, List.getElem?_set, List.getD_eq_getElem?_getD]
  by_cases h : j = i
  · subst h
    by_cases h2 : j < B.length
    · simp [h2]
    · simp [h2]
  · simp [h, show ¬ i = j from fun e => h e.symm]
theorem Inv.drop {n : Nat} {s : Int} {T : Pl} {G : List Int} {B : List Bool} (h : Inv n s T G B) (hn : n ≤ 16) {j p : Nat} (hj : j < G.length) (hf : B.getD j false = false) (hp : atV T n (G.getD j 0) = p) :
    p < n ∧ Inv n s (upd T p (false, (T p).2)) G (B.set j true) := by
  obtain ⟨p', hp', hv, hm, ht⟩ := (h.look hn j hj).2 hf
  have e : p' = p := by omega
  subst e
  refine ⟨hp', by simp [h.len], fun i hi => ?_, fun i hi => ?_, fun i hi => ?_, h.nodup, ?_⟩
  · rw [upd_ne T _ (by omega)]; exact h.wf i hi
  · by_cases e : i = p'
    · subst e; rw [upd_same]; exact h.gd i hi
    · rw [upd_ne T _ e]; exact h.gd i hi
  · obtain ⟨q, g, hq, hg1, hg2, hG, hB⟩ := h.at_ i hi
    rw [getD_set]
    by_cases e : q = p'
    · subst e
      refine ⟨q, g, hq, hg1, by rw [upd_same]; exact hg2, hG, ?_⟩
      rw [upd_same]
      by_cases e2 : i = j
      · rw [if_pos ⟨e2, by rw [← h.len]; exact hj⟩]; simp
      · rw [if_neg (fun x => e2 x.1), hB]
        obtain ⟨q2, g2, hq2, hh1, hh2, hG2, hB2⟩ := h.at_ j hj
        rw [hG2] at hm
        rw [tmod_of (by omega) (by omega)] at hm
        have : q2 = q := by omega
        subst this
        rw [hf, ht] at hB2
        simp at hB2
        have hne : g ≠ g2 := by
          intro e3
          apply e2
          rw [e3, ← hG2] at hG
          exact (List.getElem_inj h.nodup).1 (by simpa [List.getD_eq_getElem?_getD, hi, hj] using hG)
        have : (g == (T q2).2) = false := by simp; omega
        simp [this]
    · refine ⟨q, g, hq, hg1, by rw [upd_ne T _ e]; exact hg2, hG, ?_⟩
      rw [upd_ne T _ e]
      have e2 : i ≠ j := by
        rintro rfl
        rw [hG, tmod_of (by omega) (by omega)] at hm
        omega
      rw [if_neg (fun x => e2 x.1), hB]
  · have h1 := tkp_free T p' (T p').2 16 (by omega) ht
    have h2 := count_set (B := B) (j := j) (by rw [← h.len]; exact hj) hf
    have h3 := h.cnt
    omega
theorem set_gone {B : List Bool} {j : Nat} (h : B.getD j false = true) : B.set j true = B := by
  apply List.ext_getElem?
  intro i
  rw [List.getElem?_set]
  by_cases e : j = i
  · subst e
    rw [List.getD_eq_getElem?_getD] at h
    by_cases h2 : j < B.length
    · simp [h2] at h ⊢
      exact h
    · simp [h2] at h
  · simp [e]
end Go.Proofs.Ytaofpijcjohnhaa
