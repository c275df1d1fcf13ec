/- When threads came, and who is the best: plainly. No Go is walked here. -/
import Derived.Test.YtcmmckgoiaholaaNilW
namespace Go.Proofs.Ytcmmckgoiaholaa
open Go.RowKit Go.Shelf Go.Lib Go.Sort Go.Maps

/-- Who came when: c t is 0, if t is not there. -/
structure Cw (K : List Int) (c : Nat → Int) (n : Int) : Prop where
  pos : ∀ t : Nat, t < 16 → (0 < c t ↔ (t : Int) ∈ K)
  inc : K.Pairwise fun a b => c a.toNat < c b.toNat
  top : ∀ a ∈ K, c a.toNat ≤ n
def updC (c : Nat → Int) (i : Nat) (x : Int) : Nat → Int := fun j => if j = i then x else c j
theorem cw_new : Cw [] (fun _ => 0) 0 := ⟨fun t _ => by simp, List.Pairwise.nil, by simp⟩
theorem Cw.later {K : List Int} {c : Nat → Int} {n m : Int} (h : Cw K c n) (hm : n ≤ m) : Cw K c m := ⟨h.pos, h.inc, fun a ha => by have := h.top a ha; omega⟩
theorem Cw.put {K : List Int} {c : Nat → Int} {n : Int} (h : Cw K c n) (hr : ∀ a ∈ K, 0 ≤ a ∧ a < 16) {t : Int} (ht : 0 ≤ t ∧ t < 16) (hn : t ∉ K) (h0 : 0 ≤ n) : Cw (K ++ [t]) (updC c t.toNat (n + 1)) (n + 1) := by
  have hne : ∀ a ∈ K, a.toNat ≠ t.toNat := fun a ha e => by
    have h1 := hr a ha
    have h2 : a = t := by omega
    rw [h2] at ha
    exact hn ha
  refine ⟨fun u hu => ?_, ?_, fun a ha => ?_⟩
  · unfold updC
    by_cases q : u = t.toNat
    · rw [if_pos q]
      constructor
      · intro _; rw [show (u : Int) = t by omega]; simp
      · intro _; omega
    · rw [if_neg q, h.pos u hu]
      constructor
      · intro hm; exact List.mem_append.2 (.inl hm)
      · intro hm
        rcases List.mem_append.1 hm with hm | hm
        · exact hm
        · simp at hm; omega
  · rw [List.pairwise_append]
    refine ⟨?_, by simp, fun a ha b hb => ?_⟩
    · refine h.inc.imp_of_mem fun {a b} ha hb hab => ?_
      unfold updC
      rw [if_neg (hne a ha), if_neg (hne b hb)]
      exact hab
    · simp at hb
      subst hb
      unfold updC
      rw [if_neg (hne a ha), if_pos rfl]
      have := h.top a ha
      omega
  · unfold updC
    rcases List.mem_append.1 ha with ha | ha
    · rw [if_neg (hne a ha)]
      have := h.top a ha
      omega
    · simp at ha
      subst ha
      rw [if_pos rfl]
      omega
theorem Cw.del {K : List Int} {c : Nat → Int} {n : Int} (h : Cw K c n) (hr : ∀ a ∈ K, 0 ≤ a ∧ a < 16) {t : Int} (ht : 0 ≤ t ∧ t < 16) : Cw (K.filter fun k => !(k == t)) (updC c t.toNat 0) n := by
  have hne : ∀ a ∈ K.filter (fun k => !(k == t)), a ∈ K ∧ a.toNat ≠ t.toNat := fun a ha => by
    have := List.mem_filter.1 ha
    refine ⟨this.1, fun e => ?_⟩
    have h2 := hr a this.1
    simp at this
    omega
  refine ⟨fun u hu => ?_, ?_, fun a ha => ?_⟩
  · unfold updC
    by_cases q : u = t.toNat
    · rw [if_pos q]
      constructor
      · intro h; omega
      · intro hm
        have := (hne _ hm).2
        omega
    · rw [if_neg q, h.pos u hu]
      rw [List.mem_filter]
      constructor
      · intro hm; exact ⟨hm, by simp; omega⟩
      · intro hm; exact hm.1
  · refine (h.inc.filter _).imp_of_mem fun {a b} ha hb hab => ?_
    unfold updC
    rw [if_neg (hne a ha).2, if_neg (hne b hb).2]
    exact hab
  · unfold updC
    rw [if_neg (hne a ha).2]
    exact h.top a (hne a ha).1

/-- x is the best of L: the greatest, of those the one that came first. -/
def Bst (L : List Dl) (c : Nat → Int) (x : Dl) : Prop := x ∈ L ∧ ∀ y ∈ L, y.2 < x.2 ∨ (y.2 = x.2 ∧ c x.1.toNat ≤ c y.1.toNat)
theorem inc_inj {K : List Int} {c : Nat → Int} (h : K.Pairwise fun a b => c a.toNat < c b.toNat) {a b : Int} (ha : a ∈ K) (hb : b ∈ K) (e : c a.toNat = c b.toNat) : a = b := by
  induction K with
  | nil => cases ha
  | cons k r ih =>
    rw [List.pairwise_cons] at h
    rcases List.mem_cons.1 ha with rfl | ha' <;> rcases List.mem_cons.1 hb with rfl | hb'
    · rfl
    · have := h.1 b hb'; omega
    · have := h.1 a ha'; omega
    · exact ih h.2 ha' hb'
theorem Bst.unique {L : List Dl} {c : Nat → Int} {n : Int} (hc : Cw (L.map (·.1)) c n) {x y : Dl} (hx : Bst L c x) (hy : Bst L c y) : x = y := by
  have h1 := hx.2 y hy.1
  have h2 := hy.2 x hx.1
  have e1 : x.2 = y.2 := by omega
  have e2 : x.1 = y.1 := inc_inj hc.inc (List.mem_map.2 ⟨x, hx.1, rfl⟩) (List.mem_map.2 ⟨y, hy.1, rfl⟩) (by omega)
  exact Prod.ext e2 e1
theorem head_le {c : Nat → Int} : ∀ {l : List Dl} {z : Dl} {r : List Dl}, l = z :: r → l.Pairwise (fun x y => c x.1.toNat < c y.1.toNat) → ∀ y ∈ l, c z.1.toNat ≤ c y.1.toNat := by
  rintro l z r rfl h y hy
  rw [List.pairwise_cons] at h
  rcases List.mem_cons.1 hy with rfl | hy
  · exact Int.le_refl _
  · have := h.1 y hy; omega
theorem bst_head {L Z : List Dl} {c : Nat → Int} {n : Int} (hc : Cw (L.map (·.1)) c n) (hz : St L Z) {z : Dl} {r : List Dl} (e : Z = z :: r) : Bst L c z := by
  have hzm : z ∈ Z := by rw [e]; simp
  refine ⟨hz.mem.1 hzm, fun y hy => ?_⟩
  have hyz : y ∈ Z := hz.mem.2 hy
  have hle : y.2 ≤ z.2 := by
    have ha := hz.1
    rw [e] at ha hyz
    unfold Asc at ha
    rw [List.pairwise_cons] at ha
    rcases List.mem_cons.1 hyz with rfl | q
    · exact Int.le_refl _
    · have := ha.1 y q; omega
  by_cases q : y.2 = z.2
  · refine .inr ⟨q, ?_⟩
    have hfk : fk z.2 L = z :: fk z.2 r := by rw [← hz.2, e, fk_cons, if_pos rfl]
    have hp : L.Pairwise fun x y => c x.1.toNat < c y.1.toNat := by
      have := hc.inc
      rw [List.pairwise_map] at this
      exact this
    exact head_le hfk (hp.filter _) y (mem_fk.2 ⟨hy, q⟩)
  · exact .inl (by omega)
/-- The scan, so far: of the threads below t. -/
def Scn (L : List Dl) (c : Nat → Int) (t : Nat) (want prio : Int) : Prop := (want = -1 ∧ prio = 0 ∧ ∀ y ∈ L, ¬ y.1 < t) ∨ ((want, prio) ∈ L ∧ want < t ∧ ∀ y ∈ L, y.1 < t → y.2 < prio ∨ (y.2 = prio ∧ c want.toNat ≤ c y.1.toNat))
theorem scn_start (L : List Dl) (hok : okL L) (c : Nat → Int) : Scn L c 0 (-1) 0 := .inl ⟨rfl, rfl, fun y hy => by have := (hok.rng y hy).1; omega⟩
theorem scn_skip {L : List Dl} {c : Nat → Int} {t : Nat} {want prio : Int} (h : Scn L c t want prio) (hn : hasP L t = false) : Scn L c (t + 1) want prio := by
  have hne : ∀ y ∈ L, y.1 < ((t + 1 : Nat) : Int) → y.1 < (t : Int) := fun y hy hlt => by
    have : y.1 ≠ t := fun e => has_none.1 hn (List.mem_map.2 ⟨y, hy, e⟩)
    omega
  rcases h with ⟨h1, h2, h3⟩ | ⟨h1, h2, h3⟩
  · exact .inl ⟨h1, h2, fun y hy hlt => h3 y hy (hne y hy hlt)⟩
  · exact .inr ⟨h1, by omega, fun y hy hlt => h3 y hy (hne y hy hlt)⟩
theorem scn_here {L : List Dl} (hok : okL L) {c : Nat → Int} {t : Nat} {want prio p : Int} (h : Scn L c t want prio) (hm : ((t : Int), p) ∈ L) :
    (p > prio ∨ (p = prio ∧ c t < c want.toNat) → Scn L c (t + 1) t p) ∧ (¬ (p > prio ∨ (p = prio ∧ c t < c want.toNat)) → Scn L c (t + 1) want prio ∧ 0 ≤ want) := by
  have hp := (hok.rng _ hm).2
  simp only at hp
  have here : ∀ y ∈ L, y.1 = t → y.2 = p := fun y hy e => by
    have h1 := get_of_mem hok.one hy
    have h2 := get_of_mem hok.one hm
    simp only at h2
    rw [e, h2] at h1
    exact h1.symm
  constructor
  · intro hq
    refine .inr ⟨hm, by omega, fun y hy hlt => ?_⟩
    by_cases e : y.1 = t
    · exact .inr ⟨here y hy e, by rw [e]; exact Int.le_refl _⟩
    · have hlt2 : y.1 < t := by omega
      rcases h with ⟨h1, h2, h3⟩ | ⟨h1, h2, h3⟩
      · exact absurd hlt2 (h3 y hy)
      · have := h3 y hy hlt2
        rw [show ((t : Int)).toNat = t by omega]
        omega
  · intro hq
    rcases h with ⟨h1, h2, h3⟩ | ⟨h1, h2, h3⟩
    · exact absurd (.inl (by omega)) hq
    · refine ⟨.inr ⟨h1, by omega, fun y hy hlt => ?_⟩, ?_⟩
      · by_cases e : y.1 = t
        · have := here y hy e
          rw [e, show ((t : Int)).toNat = t by omega]
          omega
        · exact h3 y hy (by omega)
      · have := (hok.rng _ h1).1
        simp only at this
        omega
theorem scn_end {L : List Dl} (hok : okL L) {c : Nat → Int} {n want prio : Int} (hc : Cw (L.map (·.1)) c n) (h : Scn L c 16 want prio) : (fstB L = false ∧ want = -1) ∨ (fstB L = true ∧ fstT L = want) := by
  have hz := ord_st hok
  unfold fstB fstT
  generalize ordL L = Z at hz ⊢
  cases Z with
  | nil =>
    have hL : L = [] := by
      cases L with
      | nil => rfl
      | cons y r => have := hz.mem.2 (List.mem_cons_self (a := y) (l := r)); cases this
    subst hL
    rcases h with ⟨h1, -, -⟩ | ⟨h1, -, -⟩
    · exact .inl ⟨rfl, h1⟩
    · cases h1
  | cons z r =>
    refine .inr ⟨rfl, ?_⟩
    have hb := bst_head hc hz rfl
    rcases h with ⟨h1, h2, h3⟩ | ⟨h1, h2, h3⟩
    · have := (hok.rng z hb.1).1
      exact absurd (show z.1 < ((16 : Nat) : Int) by omega) (h3 z hb.1)
    · have hb2 : Bst L c (want, prio) := ⟨h1, fun y hy => h3 y hy (by have := (hok.rng y hy).1; omega)⟩
      have := Bst.unique hc hb hb2
      show z.1 = want
      rw [this]
end Go.Proofs.Ytcmmckgoiaholaa
