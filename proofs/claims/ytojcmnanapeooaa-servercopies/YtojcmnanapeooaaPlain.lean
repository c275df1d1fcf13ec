/- A server, plainly: what each call answers, what it keeps, and how much is used in a period. No Go is walked here. -/

namespace Go.Proofs.Ytojcmnanapeooaa

/-- A server: budget, period, most; what is left; active, since when, used since; pieces (time, amount). -/
structure Sv where
  bud : Int
  per : Int
  most : Int
  left : Int
  act : Bool
  since : Int
  used : Int
  pcs : List (Int × Int)
def mayT (now : Int) : Bool := decide (0 ≤ now) && decide (now ≤ 1099511627776)
def mayN (b p m : Int) : Bool := decide (1 ≤ b) && decide (b ≤ p) && decide (p ≤ 1099511627776) && decide (1 ≤ m) && decide (m ≤ 16)
def newS (b p m : Int) : Sv := ⟨b, p, m, b, false, 0, 0, []⟩
def highB (s : Sv) : Bool := decide (0 < s.left) && decide ((s.pcs.length : Int) < s.most)
/-- When what was used since a time comes back: a period behind it, or at least then. -/
def atT (since per least : Int) : Int := max (since + per) least
theorem at_lo {a p l : Int} (ha : 0 ≤ a) (hp : 0 ≤ p) : 0 ≤ atT a p l := by unfold atT; omega
theorem at_hi {a p l : Int} (ha : a ≤ 1099511627776) (hp : p ≤ 1099511627776) (hl : l ≤ 1099511627776) : atT a p l ≤ 2199023255552 := by have := ha; have := hp; unfold atT; omega
theorem at_ge {a p l : Int} (h : a + p ≤ 1099511627776) : a + p ≤ atT a p l := by have _ := h; unfold atT; omega
theorem at_self {a p : Int} (ha : 0 ≤ a) (ha' : a ≤ 1099511627776) (hp : 0 ≤ p) : atT a p a = atT a p 0 := by have _ := ha'; unfold atT; omega
/-- Being active ends. -/
def overS (s : Sv) (least : Int) : Sv :=
  { s with act := false, since := 0, used := 0, pcs := if 0 < s.used then s.pcs ++ [(atT s.since s.per least, s.used)] else s.pcs }
def startE (s : Sv) (now : Int) : Int := if mayT now then (if s.act then 7 else 0) else 2
def startS (s : Sv) (now : Int) : Sv := if startE s now = 0 then { s with act := true, since := now, used := 0 } else s
def useE (s : Sv) : Int := if s.act && highB s then 0 else 7
def tookS (s : Sv) : Sv := { s with left := s.left - 1, used := s.used + 1 }
def useB (s : Sv) : Bool := s.act && highB s && decide (s.left = 1)
def useS (s : Sv) : Sv := if s.act && highB s then (if s.left = 1 then overS (tookS s) 0 else tookS s) else s
def stopE (s : Sv) (now : Int) : Int := if mayT now then (if s.act then 0 else 7) else 2
def stopS (s : Sv) (now : Int) : Sv := if stopE s now = 0 then overS s now else s
def sumA : List (Int × Int) → Int
  | [] => 0
  | x :: r => x.2 + sumA r
theorem sumA_app : ∀ (l m : List (Int × Int)), sumA (l ++ m) = sumA l + sumA m
  | [], m => by simp [sumA]
  | x :: r, m => by simp only [List.cons_append, sumA, sumA_app r m]; omega
/-- The pieces that are due, and those that are not. -/
def dueL (l : List (Int × Int)) (now : Int) : List (Int × Int) := l.filter fun x => decide (x.1 ≤ now)
def notL (l : List (Int × Int)) (now : Int) : List (Int × Int) := l.filter fun x => !decide (x.1 ≤ now)
def dueN (s : Sv) (now : Int) : Int := sumA (dueL s.pcs now)
def dueS (s : Sv) (now : Int) : Sv := { s with left := s.left + dueN s now, pcs := notL s.pcs now }
theorem sum_part (l : List (Int × Int)) (now : Int) : sumA (dueL l now) + sumA (notL l now) = sumA l := by
  induction l with
  | nil => rfl
  | cons x r ih =>
    unfold dueL notL at *
    by_cases h : x.1 ≤ now
    · simp only [List.filter_cons, h, decide_true, if_true, Bool.not_true, Bool.false_eq_true, if_false, sumA]
      omega
    · simp only [List.filter_cons, h, decide_false, Bool.false_eq_true, if_false, Bool.not_false, if_true, sumA]
      omega
theorem sum_nonneg : ∀ (l : List (Int × Int)), (∀ x ∈ l, 1 ≤ x.2) → 0 ≤ sumA l ∧ (l.length : Int) ≤ sumA l
  | [], _ => by simp [sumA]
  | x :: r, h => by
    have h1 := h x (by simp)
    have h2 := sum_nonneg r (fun y hy => h y (by simp [hy]))
    simp only [sumA, List.length_cons]
    omega
/-- What holds of a server between calls. -/
structure Ok (s : Sv) : Prop where
  b1 : 1 ≤ s.bud
  bp : s.bud ≤ s.per
  pm : s.per ≤ 1099511627776
  m1 : 1 ≤ s.most
  m2 : s.most ≤ 16
  l0 : 0 ≤ s.left
  u0 : 0 ≤ s.used
  all : s.left + s.used + sumA s.pcs = s.bud
  am : ∀ x ∈ s.pcs, 1 ≤ x.2 ∧ 0 ≤ x.1 ∧ x.1 ≤ 2199023255552
  si : 0 ≤ s.since ∧ s.since ≤ 1099511627776
  na : s.act = false → s.since = 0 ∧ s.used = 0
  ln : (s.pcs.length : Int) ≤ s.most
  lu : 0 < s.used → (s.pcs.length : Int) < s.most
  le : s.act = true → 0 < s.used → 0 < s.left
section
variable {s : Sv}
theorem Ok.sum (h : Ok s) : 0 ≤ sumA s.pcs ∧ sumA s.pcs ≤ s.bud := by
  have := (sum_nonneg s.pcs fun x hx => (h.am x hx).1).1
  have := h.all
  have := h.l0
  have := h.u0
  omega
theorem ok_new {b p m : Int} (h : mayN b p m = true) : Ok (newS b p m) := by
  unfold mayN at h
  simp only [Bool.and_eq_true, decide_eq_true_eq] at h
  obtain ⟨⟨⟨⟨h1, h2⟩, h3⟩, h4⟩, h5⟩ := h
  exact ⟨h1, h2, h3, h4, h5, by show 0 ≤ b; omega, by show (0 : Int) ≤ 0; omega, by show b + 0 + 0 = b; omega, fun x hx => (by cases hx), (by show (0 : Int) ≤ 0 ∧ (0 : Int) ≤ 1099511627776; omega), fun _ => ⟨rfl, rfl⟩, (by show ((0 : Nat) : Int) ≤ m; omega), fun q => by have : (0 : Int) < 0 := q; omega, fun q => by cases q⟩
theorem ok_over (h : Ok s) {least : Int} (h0 : 0 ≤ least) (h1 : least ≤ 1099511627776) : Ok (overS s least) := by
  have _ := h0
  have hs := h.si
  have hp := h.pm
  have hb := h.b1
  have hbp := h.bp
  unfold overS
  by_cases hu : 0 < s.used
  · have hl := h.lu hu
    refine ⟨h.b1, h.bp, h.pm, h.m1, h.m2, h.l0, by show (0 : Int) ≤ 0; omega, ?_, ?_, by show (0 : Int) ≤ 0 ∧ (0 : Int) ≤ 1099511627776; omega, fun _ => ⟨rfl, rfl⟩, ?_, fun q => by have : (0 : Int) < 0 := q; omega, fun q => by cases q⟩
    · show s.left + 0 + sumA (if 0 < s.used then _ else _) = s.bud
      rw [if_pos hu, sumA_app]
      have := h.all
      simp only [sumA]
      omega
    · show ∀ x ∈ (if 0 < s.used then _ else _), _
      rw [if_pos hu]
      intro x hx
      simp only [List.mem_append, List.mem_singleton] at hx
      rcases hx with q | rfl
      · exact h.am x q
      · exact ⟨by show 1 ≤ s.used; omega, at_lo (by omega) (by omega), at_hi (by omega) (by omega) (by omega)⟩
    · show (((if 0 < s.used then _ else _ : List (Int × Int)).length : Nat) : Int) ≤ s.most
      rw [if_pos hu, List.length_append]
      simp only [List.length_singleton]
      omega
  · refine ⟨h.b1, h.bp, h.pm, h.m1, h.m2, h.l0, by show (0 : Int) ≤ 0; omega, ?_, ?_, by show (0 : Int) ≤ 0 ∧ (0 : Int) ≤ 1099511627776; omega, fun _ => ⟨rfl, rfl⟩, ?_, fun q => by have : (0 : Int) < 0 := q; omega, fun q => by cases q⟩
    · show s.left + 0 + sumA (if 0 < s.used then _ else _) = s.bud
      rw [if_neg hu]
      have := h.all
      have := h.u0
      omega
    · show ∀ x ∈ (if 0 < s.used then _ else _), _
      rw [if_neg hu]
      exact h.am
    · show (((if 0 < s.used then _ else _ : List (Int × Int)).length : Nat) : Int) ≤ s.most
      rw [if_neg hu]
      exact h.ln
theorem mayT_iff {now : Int} : mayT now = true ↔ 0 ≤ now ∧ now ≤ 1099511627776 := by
  unfold mayT
  simp only [Bool.and_eq_true, decide_eq_true_eq]
theorem ok_start (h : Ok s) (now : Int) : Ok (startS s now) := by
  unfold startS
  split
  · rename_i e
    unfold startE at e
    split at e
    · rename_i hm
      split at e
      · cases e
      · rename_i ha
        have ha' : s.act = false := by simpa using ha
        have hz := h.na ha'
        have hall := h.all
        exact ⟨h.b1, h.bp, h.pm, h.m1, h.m2, h.l0, by show (0 : Int) ≤ 0; omega, by show s.left + 0 + sumA s.pcs = s.bud; omega, h.am, mayT_iff.1 hm, fun q => (by cases q), h.ln, fun q => by have : (0 : Int) < 0 := q; omega, fun _ q => by have : (0 : Int) < 0 := q; omega⟩
    · cases e
  · exact h
theorem high_iff : highB s = true ↔ 0 < s.left ∧ (s.pcs.length : Int) < s.most := by
  unfold highB
  simp only [Bool.and_eq_true, decide_eq_true_eq]
theorem ok_use (h : Ok s) : Ok (useS s) := by
  unfold useS
  split
  · rename_i hc
    simp only [Bool.and_eq_true] at hc
    have hh := high_iff.1 hc.2
    have hall := h.all
    have hu := h.u0
    by_cases h1 : s.left = 1
    · rw [if_pos h1]
      have hs := h.si
      have hp := h.pm
      have hb := h.b1
      have hbp := h.bp
      unfold overS tookS
      refine ⟨h.b1, h.bp, h.pm, h.m1, h.m2, by show 0 ≤ s.left - 1; omega, by show (0 : Int) ≤ 0; omega, ?_, ?_, by show (0 : Int) ≤ 0 ∧ (0 : Int) ≤ 1099511627776; omega, fun _ => ⟨rfl, rfl⟩, ?_, fun q => by have : (0 : Int) < 0 := q; omega, fun q => by cases q⟩
      · show s.left - 1 + 0 + sumA (if 0 < s.used + 1 then _ else _) = s.bud
        rw [if_pos (by omega), sumA_app]
        simp only [sumA]
        omega
      · show ∀ x ∈ (if 0 < s.used + 1 then _ else _), _
        rw [if_pos (by omega)]
        intro x hx
        simp only [List.mem_append, List.mem_singleton] at hx
        rcases hx with q | rfl
        · exact h.am x q
        · exact ⟨by show 1 ≤ s.used + 1; omega, at_lo (by omega) (by omega), at_hi (by omega) (by omega) (by omega)⟩
      · show (((if 0 < s.used + 1 then _ else _ : List (Int × Int)).length : Nat) : Int) ≤ s.most
        rw [if_pos (by omega), List.length_append]
        simp only [List.length_singleton]
        omega
    · rw [if_neg h1]
      unfold tookS
      exact ⟨h.b1, h.bp, h.pm, h.m1, h.m2, by show 0 ≤ s.left - 1; omega, by show 0 ≤ s.used + 1; omega, by show s.left - 1 + (s.used + 1) + sumA s.pcs = s.bud; omega, h.am, h.si, fun q => (by
        have : s.act = false := q
        rw [hc.1] at this
        cases this), h.ln, fun _ => hh.2, fun _ _ => by show 0 < s.left - 1; omega⟩
  · exact h
theorem ok_stop (h : Ok s) (now : Int) : Ok (stopS s now) := by
  unfold stopS
  split
  · rename_i e
    unfold stopE at e
    split at e
    · rename_i hm
      have := mayT_iff.1 hm
      exact ok_over h this.1 this.2
    · cases e
  · exact h
theorem ok_due (h : Ok s) (now : Int) : Ok (dueS s now) := by
  have hp := sum_part s.pcs now
  have hall := h.all
  have hl := h.l0
  have hd : 0 ≤ sumA (dueL s.pcs now) := (sum_nonneg _ fun x hx => (h.am x (List.mem_filter.1 hx).1).1).1
  have hlen : (notL s.pcs now).length ≤ s.pcs.length := List.length_filter_le _ _
  have hln := h.ln
  exact ⟨h.b1, h.bp, h.pm, h.m1, h.m2, by show 0 ≤ s.left + sumA (dueL s.pcs now); omega, h.u0, by show s.left + sumA (dueL s.pcs now) + s.used + sumA (notL s.pcs now) = s.bud; omega, fun x hx => h.am x (List.mem_filter.1 hx).1, h.si, h.na, by show ((notL s.pcs now).length : Int) ≤ s.most; omega, fun q => by have := h.lu q; show ((notL s.pcs now).length : Int) < s.most; omega, fun a q => by have := h.le a q; show 0 < s.left + sumA (dueL s.pcs now); omega⟩
/-- All pieces are back, and it is not active: all is left. -/
theorem whole (h : Ok s) : (dueS (stopS s 1099511627776) 2199023255553).left = s.bud ∧ (dueS (stopS s 1099511627776) 2199023255553).pcs = [] ∧ (dueS (stopS s 1099511627776) 2199023255553).act = false := by
  have h1 := ok_stop h 1099511627776
  have ha : (stopS s 1099511627776).act = false := by
    unfold stopS stopE
    rw [if_pos (show mayT 1099511627776 = true from by decide)]
    cases hq : s.act with
    | true => rfl
    | false => exact hq
  have hb : (stopS s 1099511627776).bud = s.bud := by
    unfold stopS
    split <;> rfl
  have h2 := ok_due h1 2199023255553
  have hn : (dueS (stopS s 1099511627776) 2199023255553).pcs = [] := by
    show notL _ _ = []
    unfold notL
    rw [List.filter_eq_nil_iff]
    intro x hx
    have := h1.am x hx
    simp
    omega
  refine ⟨?_, hn, ha⟩
  have h3 := h2.all
  rw [hn] at h3
  have h4 : (dueS (stopS s 1099511627776) 2199023255553).used = 0 := (h1.na ha).2
  have h5 : (dueS (stopS s 1099511627776) 2199023255553).bud = s.bud := hb
  rw [h4, h5] at h3
  simp only [sumA] at h3
  omega
end
/-- How many below n are so. -/
def cnt (p : Nat → Bool) : Nat → Nat
  | 0 => 0
  | n + 1 => cnt p n + if p n then 1 else 0
theorem cnt_mono {p q : Nat → Bool} : ∀ {n : Nat}, (∀ k, k < n → p k = true → q k = true) → cnt p n ≤ cnt q n
  | 0, _ => Nat.le_refl _
  | n + 1, h => by
    have ih := cnt_mono (n := n) fun k hk => h k (by omega)
    have h1 := h n (by omega)
    simp only [cnt]
    cases hp : p n with
    | false => simp; omega
    | true => simp [h1 hp]; omega
theorem cnt_congr {p q : Nat → Bool} {n : Nat} (h : ∀ k, k < n → p k = q k) : cnt p n = cnt q n :=
  Nat.le_antisymm (cnt_mono fun k hk e => by rw [← h k hk]; exact e) (cnt_mono fun k hk e => by rw [h k hk]; exact e)
theorem cnt_none {p : Nat → Bool} {n : Nat} (h : ∀ k, k < n → p k = false) : cnt p n = 0 := by
  rw [cnt_congr (q := fun _ => false) h]
  clear h
  induction n with
  | zero => rfl
  | succ n ih => simp only [cnt, ih]; rfl
theorem cnt_split (p q : Nat → Bool) : ∀ n, cnt p n = cnt (fun k => p k && q k) n + cnt (fun k => p k && !q k) n
  | 0 => rfl
  | n + 1 => by
    have ih := cnt_split p q n
    simp only [cnt]
    by_cases hp : p n = true <;> by_cases hq : q n = true <;> simp [hp, hq] <;> omega
theorem cnt_from (p : Nat → Bool) (m : Nat) : ∀ n, m ≤ n → cnt p n = cnt p m + cnt (fun k => decide (m ≤ k) && p k) n
  | 0, h => by
    have : m = 0 := by omega
    subst this
    rfl
  | n + 1, h => by
    by_cases e : m = n + 1
    · subst e
      rw [cnt_none (p := fun k => decide (n + 1 ≤ k) && p k) (fun k hk => by simp; omega)]
      omega
    · have ih := cnt_from p m n (by omega)
      simp only [cnt]
      rw [ih]
      have : decide (m ≤ n) = true := by simp; omega
      simp only [this, Bool.true_and]
      omega
/-- What comes back from a time on. -/
def sumW (l : List (Int × Int)) (t : Int) : Int := sumA (l.filter fun x => decide (t ≤ x.1))
theorem sumW_app (l m : List (Int × Int)) (t : Int) : sumW (l ++ m) t = sumW l t + sumW m t := by unfold sumW; rw [List.filter_append, sumA_app]
theorem sumW_le (l : List (Int × Int)) (t : Int) (h : ∀ x ∈ l, 1 ≤ x.2) : sumW l t ≤ sumA l := by
  induction l with
  | nil => exact Int.le_refl _
  | cons x r ih =>
    have h1 := h x (by simp)
    have h2 := ih fun y hy => h y (by simp [hy])
    unfold sumW at *
    by_cases q : t ≤ x.1
    · simp only [List.filter_cons, q, decide_true, if_true, sumA]; omega
    · simp only [List.filter_cons, q, decide_false, Bool.false_eq_true, if_false, sumA]; omega
theorem sumW_nn (l : List (Int × Int)) (t : Int) (h : ∀ x ∈ l, 0 ≤ x.2) : 0 ≤ sumW l t := by
  induction l with
  | nil => exact Int.le_refl _
  | cons x r ih =>
    have h1 := h x (by simp)
    have h2 := ih fun y hy => h y (by simp [hy])
    unfold sumW at *
    by_cases q : t ≤ x.1
    · simp only [List.filter_cons, q, decide_true, if_true, sumA]; omega
    · simp only [List.filter_cons, q, decide_false, Bool.false_eq_true, if_false]; omega
theorem sumW_not (l : List (Int × Int)) {t now : Int} (h : now < t) : sumW (notL l now) t = sumW l t := by
  unfold sumW notL
  rw [List.filter_filter]
  congr 1
  apply List.filter_congr
  intro x _
  by_cases q : t ≤ x.1
  · have : ¬ x.1 ≤ now := by omega
    simp [q, this]
  · simp [q]
/-- What was used since W, and is not back. -/
def runW (s : Sv) (W : Int) : Int := (if s.act && decide (W ≤ s.since) then s.used else 0) + sumW s.pcs (W + s.per)
section
variable {s : Sv}
theorem runW_le (h : Ok s) (W : Int) : runW s W ≤ s.bud := by
  have h1 := sumW_le s.pcs (W + s.per) fun x hx => (h.am x hx).1
  have h2 := h.all
  have h3 := h.l0
  have h4 := h.u0
  unfold runW
  split <;> omega
theorem runW_due (W now : Int) (h : now < W + s.per) : runW (dueS s now) W = runW s W := by
  show (if s.act && decide (W ≤ s.since) then s.used else 0) + sumW (notL s.pcs now) (W + s.per) = _
  rw [sumW_not _ h]
  rfl
theorem runW_over (h : Ok s) (hM : s.since + s.per ≤ 1099511627776) (W least : Int) : runW s W ≤ runW (overS s least) W := by
  show (if s.act && decide (W ≤ s.since) then s.used else 0) + sumW s.pcs (W + s.per) ≤ 0 + sumW (if 0 < s.used then _ else _) (W + s.per)
  have hu := h.u0
  by_cases q : 0 < s.used
  · rw [if_pos q, sumW_app]
    have hn : 0 ≤ sumW [(atT s.since s.per least, s.used)] (W + s.per) := sumW_nn _ _ (fun x hx => by simp at hx; subst hx; exact hu)
    by_cases hW : W ≤ s.since
    · have : sumW [(atT s.since s.per least, s.used)] (W + s.per) = s.used := by
        unfold sumW
        have e : W + s.per ≤ atT s.since s.per least := by have := at_ge (l := least) hM; omega
        simp only [List.filter_cons, List.filter_nil, e, decide_true, if_true, sumA]
        omega
      rw [this]
      split <;> omega
    · have : (s.act && decide (W ≤ s.since)) = false := by simp [hW]
      rw [this]
      simp only [Bool.false_eq_true, if_false]
      omega
  · rw [if_neg q]
    split <;> omega
theorem runW_start (W now : Int) : runW (startS s now) W = runW s W := by
  unfold startS
  split
  · rename_i e
    unfold startE at e
    split at e
    · split at e
      · cases e
      · rename_i ha
        have ha' : s.act = false := by simpa using ha
        show (if true && decide (W ≤ now) then (0 : Int) else 0) + sumW s.pcs (W + s.per) = (if s.act && decide (W ≤ s.since) then s.used else 0) + sumW s.pcs (W + s.per)
        rw [ha']
        simp
    · cases e
  · rfl
theorem runW_stop (h : Ok s) (hM : s.act = true → s.since + s.per ≤ 1099511627776) (W now : Int) : runW s W ≤ runW (stopS s now) W := by
  unfold stopS
  split
  · rename_i e
    refine runW_over h (hM ?_) W now
    unfold stopE at e
    cases ha : s.act with
    | true => rfl
    | false =>
      rw [ha] at e
      split at e <;> simp at e
  · exact Int.le_refl _
/-- The state between a taking and its end. -/
theorem runW_took (W : Int) (ha : s.act = true) : runW (tookS s) W = runW s W + if W ≤ s.since then 1 else 0 := by
  show (if s.act && decide (W ≤ s.since) then s.used + 1 else 0) + sumW s.pcs (W + s.per) = (if s.act && decide (W ≤ s.since) then s.used else 0) + sumW s.pcs (W + s.per) + _
  rw [ha]
  by_cases q : W ≤ s.since
  · simp [q]; omega
  · simp [q]
theorem over_took (h : Ok s) (hM : s.since + s.per ≤ 1099511627776) (W : Int) : runW (tookS s) W ≤ runW (overS (tookS s) 0) W := by
  have hu := h.u0
  have hs := h.si
  have hb := h.b1
  have hbp := h.bp
  show (if s.act && decide (W ≤ s.since) then s.used + 1 else 0) + sumW s.pcs (W + s.per) ≤ 0 + sumW (if 0 < s.used + 1 then _ else _) (W + s.per)
  rw [if_pos (show 0 < s.used + 1 by omega), sumW_app]
  have hn : 0 ≤ sumW [(atT s.since s.per 0, s.used + 1)] (W + s.per) := sumW_nn _ _ (fun x hx => by simp at hx; subst hx; show 0 ≤ s.used + 1; omega)
  by_cases hW : W ≤ s.since
  · have : sumW [(atT s.since s.per 0, s.used + 1)] (W + s.per) = s.used + 1 := by
      unfold sumW
      have e : W + s.per ≤ atT s.since s.per 0 := by have := at_ge (l := 0) hM; omega
      simp only [List.filter_cons, List.filter_nil, e, decide_true, if_true, sumA]
      omega
    show _ ≤ 0 + (sumW s.pcs (W + s.per) + sumW [(atT s.since s.per 0, s.used + 1)] (W + s.per))
    rw [this]
    split <;> omega
  · have : (s.act && decide (W ≤ s.since)) = false := by simp [hW]
    rw [this]
    simp only [Bool.false_eq_true, if_false]
    show _ ≤ 0 + (sumW s.pcs (W + s.per) + sumW [(atT s.since s.per 0, s.used + 1)] (W + s.per))
    omega
theorem runW_use (h : Ok s) (hM : s.since + s.per ≤ 1099511627776) (W : Int) (ha : s.act = true) (hh : highB s = true) : runW s W + (if W ≤ s.since then 1 else 0) ≤ runW (useS s) W := by
  unfold useS
  rw [ha, hh]
  simp only [Bool.and_self, if_true]
  rw [← runW_took W ha]
  split
  · exact over_took h hM W
  · exact Int.le_refl _
end
/-- What was used below N, tick by tick, and since when it was active then. -/
structure Bi (s : Sv) (N : Nat) (u : Nat → Bool) (σ : Nat → Int) : Prop where
  ok : Ok s
  a : ∀ k, k < N → u k = true → 0 ≤ σ k ∧ σ k ≤ (k : Int)
  b : ∀ k k', k < k' → k' < N → u k = true → u k' = true → σ k' = σ k ∨ (k : Int) < σ k'
  c : ∀ t : Int, (cnt (fun k => u k && decide (σ k = t)) N : Int) ≤ s.bud
  d : s.act = true → s.since ≤ (N : Int) ∧ (cnt (fun k => u k && decide (σ k = s.since)) N : Int) = s.used ∧ ∀ k, k < N → u k = true → σ k = s.since ∨ (k : Int) < s.since
  e : ∀ W : Int, (N : Int) ≤ W + s.per → (cnt (fun k => (decide (W ≤ (k : Int)) && u k) && decide (W ≤ σ k)) N : Int) ≤ runW s W
theorem bi_new {b p m : Int} (h : mayN b p m = true) (u : Nat → Bool) (σ : Nat → Int) : Bi (newS b p m) 0 u σ := by
  have ok := ok_new h
  refine ⟨ok, fun k hk => by omega, fun k k' _ hk => by omega, fun t => ?_, fun q => (by cases q), fun W _ => ?_⟩
  · show ((0 : Nat) : Int) ≤ b
    have := ok.b1
    have : 1 ≤ b := this
    omega
  · show ((0 : Nat) : Int) ≤ (if false && _ then _ else _) + sumW [] _
    simp [sumW, sumA]
/-- In no period more than twice the budget; in the first one, the budget. -/
theorem bi_bound {s : Sv} {N : Nat} {u : Nat → Bool} {σ : Nat → Int} (h : Bi s N u σ) (W : Int) (hW : (N : Int) ≤ W + s.per) : (cnt (fun k => decide (W ≤ (k : Int)) && u k) N : Int) ≤ 2 * s.bud ∧ (W ≤ 0 → (cnt (fun k => decide (W ≤ (k : Int)) && u k) N : Int) ≤ s.bud) := by
  have h1 := cnt_split (fun k => decide (W ≤ (k : Int)) && u k) (fun k => decide (W ≤ σ k)) N
  have h2 := h.e W hW
  have h3 := runW_le h.ok W
  have hb := h.ok.b1
  refine ⟨?_, fun hW0 => ?_⟩
  · have h4 : (cnt (fun k => (decide (W ≤ (k : Int)) && u k) && !decide (W ≤ σ k)) N : Int) ≤ s.bud := by
      by_cases hx : ∃ k, k < N ∧ W ≤ (k : Int) ∧ u k = true ∧ σ k < W
      · obtain ⟨k0, hk0, w0, u0, s0⟩ := hx
        have := h.c (σ k0)
        refine Int.le_trans ?_ this
        have hm : cnt (fun k => (decide (W ≤ (k : Int)) && u k) && !decide (W ≤ σ k)) N ≤ cnt (fun k => u k && decide (σ k = σ k0)) N := cnt_mono fun k hk e => by
          simp only [Bool.and_eq_true, Bool.not_eq_true', decide_eq_true_eq, decide_eq_false_iff_not] at e ⊢
          obtain ⟨⟨e1, e2⟩, e3⟩ := e
          refine ⟨e2, ?_⟩
          rcases Nat.lt_trichotomy k k0 with q | q | q
          · rcases h.b k k0 q hk0 e2 u0 with r | r
            · exact r.symm
            · omega
          · rw [q]
          · rcases h.b k0 k q hk u0 e2 with r | r
            · exact r
            · omega
        omega
      · rw [cnt_none (fun k hk => by
          simp only [Bool.and_eq_false_iff, decide_eq_false_iff_not, Bool.not_eq_false', decide_eq_true_eq]
          by_cases q1 : W ≤ (k : Int)
          · by_cases q2 : u k = true
            · right
              by_cases q3 : W ≤ σ k
              · exact q3
              · exact absurd ⟨k, hk, q1, q2, by omega⟩ hx
            · left; right; simpa using q2
          · left; left; exact q1)]
        omega
    omega
  · rw [cnt_none (p := fun k => (decide (W ≤ (k : Int)) && u k) && !decide (W ≤ σ k)) (fun k hk => by
      simp only [Bool.and_eq_false_iff, decide_eq_false_iff_not, Bool.not_eq_false', decide_eq_true_eq]
      by_cases q2 : u k = true
      · right
        have := h.a k hk q2
        omega
      · left; right; simpa using q2)] at h1
    omega
/-- The same, in the midst of tick N. -/
structure Bm (s : Sv) (N : Nat) (u : Nat → Bool) (σ : Nat → Int) : Prop where
  ok : Ok s
  a : ∀ k, k < N → u k = true → 0 ≤ σ k ∧ σ k ≤ (k : Int)
  b : ∀ k k', k < k' → k' < N → u k = true → u k' = true → σ k' = σ k ∨ (k : Int) < σ k'
  c : ∀ t : Int, (cnt (fun k => u k && decide (σ k = t)) N : Int) ≤ s.bud
  d : s.act = true → s.since ≤ (N : Int) ∧ (cnt (fun k => u k && decide (σ k = s.since)) N : Int) = s.used ∧ ∀ k, k < N → u k = true → σ k = s.since ∨ (k : Int) < s.since
  e : ∀ W : Int, (N : Int) + 1 ≤ W + s.per → (cnt (fun k => (decide (W ≤ (k : Int)) && u k) && decide (W ≤ σ k)) N : Int) ≤ runW s W
section
variable {s : Sv} {N : Nat} {u : Nat → Bool} {σ : Nat → Int}
theorem Bi.due (h : Bi s N u σ) : Bm (dueS s N) N u σ :=
  ⟨ok_due h.ok N, h.a, h.b, h.c, h.d, fun W hW => by
    have hW' : (N : Int) + 1 ≤ W + s.per := hW
    rw [runW_due W N (by omega)]
    exact h.e W (by omega)⟩
theorem stop_act (now : Int) (hn : mayT now = true) : (stopS s now).act = false := by
  unfold stopS stopE
  rw [hn]
  cases hq : s.act with
  | true => rfl
  | false => exact hq
theorem stop_bp (now : Int) : (stopS s now).bud = s.bud ∧ (stopS s now).per = s.per := by
  unfold stopS
  split <;> exact ⟨rfl, rfl⟩
theorem Bm.stop (h : Bm s N u σ) (hM : (N : Int) + s.per ≤ 1099511627776) (now : Int) (hn : mayT now = true) : Bm (stopS s now) N u σ := by
  have ha := stop_act (s := s) now hn
  have hb := stop_bp (s := s) now
  refine ⟨ok_stop h.ok now, h.a, h.b, fun t => by rw [hb.1]; exact h.c t, fun q => (by rw [ha] at q; cases q), fun W hW => ?_⟩
  rw [hb.2] at hW
  exact Int.le_trans (h.e W hW) (runW_stop h.ok (fun q => by have := (h.d q).1; omega) W now)
theorem Bm.start (h : Bm s N u σ) (hn : mayT N = true) (ha : s.act = false) : Bm (startS s N) N u σ := by
  have hs : startS s N = { s with act := true, since := (N : Int), used := 0 } := by
    unfold startS startE
    rw [hn, ha]
    rfl
  have hr := fun W => runW_start (s := s) W N
  have ho := ok_start h.ok N
  rw [hs] at hr ho ⊢
  refine ⟨ho, h.a, h.b, h.c, fun _ => ⟨Int.le_refl _, ?_, fun k hk _ => .inr (by show (k : Int) < (N : Int); omega)⟩, fun W hW => ?_⟩
  · show (cnt (fun k => u k && decide (σ k = (N : Int))) N : Int) = 0
    rw [cnt_none fun k hk => ?_]
    · rfl
    · cases hu : u k with
      | false => rfl
      | true =>
        have := h.a k hk hu
        simp
        omega
  · rw [hr W]
    exact h.e W hW
theorem use_bp : (useS s).bud = s.bud ∧ (useS s).per = s.per := by
  unfold useS
  split
  · split <;> exact ⟨rfl, rfl⟩
  · exact ⟨rfl, rfl⟩
/-- Nothing is used. -/
theorem Bm.skip (h : Bm s N u σ) (hn : (s.act && highB s) = false) {u' : Nat → Bool} {σ' : Nat → Int} (hu : ∀ k, k < N → u' k = u k) (hs : ∀ k, k < N → σ' k = σ k) (h0 : u' N = false) : Bi (useS s) (N + 1) u' σ' := by
  have e : useS s = s := by
    unfold useS
    rw [hn]
    rfl
  rw [e]
  have cc : ∀ p : Nat → Bool → Int → Bool, (∀ k t, p k false t = false) → cnt (fun k => p k (u' k) (σ' k)) (N + 1) = cnt (fun k => p k (u k) (σ k)) N := fun p hp => by
    show cnt (fun k => p k (u' k) (σ' k)) N + (if p N (u' N) (σ' N) then 1 else 0) = _
    rw [h0, hp, cnt_congr (q := fun k => p k (u k) (σ k)) fun k hk => by rw [hu k hk, hs k hk]]
    rfl
  refine ⟨h.ok, fun k hk q => ?_, fun k k' hk hk' q q' => ?_, fun t => ?_, fun q => ⟨?_, ?_, fun k hk q' => ?_⟩, fun W hW => ?_⟩
  · by_cases e : k = N
    · rw [e, h0] at q; cases q
    · rw [hs k (by omega)]; rw [hu k (by omega)] at q; exact h.a k (by omega) q
  · by_cases e : k' = N
    · rw [e, h0] at q'; cases q'
    · rw [hs k (by omega), hs k' (by omega)]
      rw [hu k (by omega)] at q
      rw [hu k' (by omega)] at q'
      exact h.b k k' hk (by omega) q q'
  · rw [cc (fun _ b x => b && decide (x = t)) (fun _ _ => rfl)]
    exact h.c t
  · have := (h.d q).1; omega
  · rw [cc (fun _ b x => b && decide (x = s.since)) (fun _ _ => rfl)]
    exact (h.d q).2.1
  · by_cases e : k = N
    · rw [e, h0] at q'; cases q'
    · rw [hs k (by omega)]; rw [hu k (by omega)] at q'; exact (h.d q).2.2 k (by omega) q'
  · rw [cc (fun k b x => (decide (W ≤ (k : Int)) && b) && decide (W ≤ x)) (fun k t => by simp)]
    exact h.e W (by omega)
/-- One is used. -/
theorem Bm.used (h : Bm s N u σ) (hM : (N : Int) + s.per ≤ 1099511627776) (ha : s.act = true) (hh : highB s = true) {u' : Nat → Bool} {σ' : Nat → Int} (hu : ∀ k, k < N → u' k = u k) (hs : ∀ k, k < N → σ' k = σ k) (h0 : u' N = true) (h1 : σ' N = s.since) : Bi (useS s) (N + 1) u' σ' := by
  have bp := use_bp (s := s)
  obtain ⟨d1, d2, d3⟩ := h.d ha
  have hi := high_iff.1 hh
  have hall := h.ok.all
  have hsum := h.ok.sum
  have cc : ∀ p : Nat → Bool → Int → Bool, cnt (fun k => p k (u' k) (σ' k)) (N + 1) = cnt (fun k => p k (u k) (σ k)) N + if p N true s.since then 1 else 0 := fun p => by
    show cnt (fun k => p k (u' k) (σ' k)) N + (if p N (u' N) (σ' N) then 1 else 0) = _
    rw [h0, h1, cnt_congr (q := fun k => p k (u k) (σ k)) fun k hk => by rw [hu k hk, hs k hk]]
  refine ⟨ok_use h.ok, fun k hk q => ?_, fun k k' hk hk' q q' => ?_, fun t => ?_, fun q => ?_, fun W hW => ?_⟩
  · by_cases e : k = N
    · rw [e, h1]; exact ⟨h.ok.si.1, d1⟩
    · rw [hs k (by omega)]; rw [hu k (by omega)] at q; exact h.a k (by omega) q
  · by_cases e : k' = N
    · rw [e, h1, hs k (by omega)]
      rw [hu k (by omega)] at q
      rcases d3 k (by omega) q with r | r
      · exact .inl r.symm
      · exact .inr r
    · rw [hs k (by omega), hs k' (by omega)]
      rw [hu k (by omega)] at q
      rw [hu k' (by omega)] at q'
      exact h.b k k' hk (by omega) q q'
  · rw [cc (fun _ b x => b && decide (x = t)), bp.1]
    by_cases e : s.since = t
    · subst e
      simp only [decide_true, Bool.and_self, if_true]
      omega
    · have := h.c t
      simp only [e, decide_false, Bool.and_false, Bool.false_eq_true, if_false]
      omega
  · have hne : ¬ s.left = 1 := fun e => by
      unfold useS at q
      rw [ha, hh] at q
      simp only [Bool.and_self, if_true, e] at q
      cases q
    have e : useS s = tookS s := by
      unfold useS
      rw [ha, hh]
      simp only [Bool.and_self, if_true]
      rw [if_neg hne]
    rw [e]
    refine ⟨by show s.since ≤ ((N + 1 : Nat) : Int); omega, ?_, fun k hk q' => ?_⟩
    · show (cnt (fun k => u' k && decide (σ' k = s.since)) (N + 1) : Int) = s.used + 1
      rw [cc (fun _ b x => b && decide (x = s.since))]
      simp only [decide_true, Bool.and_self, if_true]
      omega
    · show σ' k = s.since ∨ (k : Int) < s.since
      by_cases e : k = N
      · rw [e, h1]; exact .inl rfl
      · rw [hs k (by omega)]; rw [hu k (by omega)] at q'; exact d3 k (by omega) q'
  · rw [bp.2] at hW
    rw [cc (fun k b x => (decide (W ≤ (k : Int)) && b) && decide (W ≤ x))]
    have h2 := h.e W (by omega)
    have h3 := runW_use h.ok (by omega) W ha hh
    by_cases e : W ≤ s.since
    · rw [if_pos e] at h3
      split <;> omega
    · rw [if_neg e] at h3
      have : ((decide (W ≤ (N : Int)) && true) && decide (W ≤ s.since)) = false := by simp [e]
      rw [this]
      simp only [Bool.false_eq_true, if_false]
      omega
end
end Go.Proofs.Ytojcmnanapeooaa
