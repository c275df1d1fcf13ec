/- The plain level: rings hold a list in order. No Go is walked here. -/
import Derived.Test.YtoaceeddcnijoaaAt
namespace Go.Proofs.Ytoaceeddcnijoaa
open Go.RowKit Go.Shelf Go.Lib Go.Sort

theorem nodup_len (n : Nat) (l : List Nat) (hn : l.Nodup) (h : ∀ x ∈ l, x < n) : l.length ≤ n := by
  have := hn.length_le_of_subset (l₂ := List.range n) (fun x hx => List.mem_range.2 (h x hx))
  simpa using this

/-- What a deadline may be. -/
def okD (x : Dl) : Prop := (0 ≤ x.1 ∧ x.1 < 64) ∧ 0 ≤ x.2 ∧ x.2 ≤ 1099511627776
/-- A list in order, each number once. -/
structure Lw (L : List Dl) : Prop where
  asc : Asc L
  ok : ∀ x ∈ L, okD x
  once : (L.map (·.1)).Nodup
theorem Lw.len {L : List Dl} (h : Lw L) : L.length ≤ 64 := by
  have := nodup_len 64 (L.map fun x => x.1.toNat) ?_ ?_
  · simpa using this
  · have e : (L.map fun x => x.1.toNat) = (L.map (·.1)).map Int.toNat := by simp
    rw [e]
    refine List.pairwise_map.2 ?_
    refine List.Pairwise.imp_of_mem ?_ h.once
    intro a b ha hb hne he
    obtain ⟨x, hx, rfl⟩ := List.mem_map.1 ha
    obtain ⟨y, hy, rfl⟩ := List.mem_map.1 hb
    have := (h.ok x hx).1
    have := (h.ok y hy).1
    exact hne (by omega)
  · intro n hn
    obtain ⟨x, hx, rfl⟩ := List.mem_map.1 hn
    have := (h.ok x hx).1
    omega

/-- Rings D hold L. -/
structure Rg (D : Nat → List Dl) (L : List Dl) : Prop where
  st : St (cat D 64) L
  sl : ∀ s, s < 64 → ∀ x ∈ D s, x.2 % 64 = (s : Int)
  lw : Lw L
theorem Rg.len {D : Nat → List Dl} {L : List Dl} (h : Rg D L) : (cat D 64).length ≤ 100000 := by
  have := h.lw.len
  rw [h.st.length] at this
  omega
theorem cat_nil : ∀ k, cat (fun _ => []) k = []
  | 0 => rfl
  | k + 1 => by rw [cat, cat_nil k]; rfl
theorem lw_nil : Lw [] := ⟨List.Pairwise.nil, by simp, List.Pairwise.nil⟩
theorem rg_nil : Rg (fun _ => []) [] := ⟨by rw [cat_nil]; exact st_nil, by simp, lw_nil⟩

theorem cat_rest (p : Dl → Bool) (D : Nat → List Dl) : ∀ k, cat (fun s => rest p (D s)) k = rest p (cat D k)
  | 0 => rfl
  | k + 1 => by rw [cat, cat, cat_rest p D k]; unfold rest; rw [List.filter_append]
theorem fk_filter (t : Int) (p : Dl → Bool) (l : List Dl) : fk t (l.filter p) = (fk t l).filter p := by
  unfold fk
  rw [List.filter_filter, List.filter_filter]
  congr 1
  funext x
  exact Bool.and_comm _ _
theorem St.filter {l z : List Dl} (h : St l z) (p : Dl → Bool) : St (l.filter p) (z.filter p) :=
  ⟨List.Pairwise.filter _ h.1, fun t => by rw [fk_filter, fk_filter, h.2]⟩
theorem Lw.sub {L M : List Dl} (h : Lw L) (hs : M.Sublist L) : Lw M := ⟨h.asc.sublist hs, fun x hx => h.ok x (hs.subset hx), h.once.sublist (hs.map _)⟩
theorem Lw.rest {L : List Dl} (h : Lw L) (p : Dl → Bool) : Lw (rest p L) := h.sub List.filter_sublist
theorem Rg.rest {D : Nat → List Dl} {L : List Dl} (h : Rg D L) (p : Dl → Bool) : Rg (fun s => Ytoaceeddcnijoaa.rest p (D s)) (Ytoaceeddcnijoaa.rest p L) :=
  ⟨by rw [cat_rest]; exact h.st.filter _, fun s hs x hx => h.sl s hs x (List.filter_sublist.subset hx), h.lw.rest p⟩

/-! ### One more -/
/-- Behind all that are no later. -/
def ins (x : Dl) (L : List Dl) : List Dl := L.takeWhile (fun y => decide (y.2 ≤ x.2)) ++ x :: L.dropWhile (fun y => decide (y.2 ≤ x.2))
theorem drop_gt {L : List Dl} (h : Asc L) (t : Int) : ∀ y ∈ L.dropWhile (fun y => decide (y.2 ≤ t)), t < y.2 := by
  induction L with
  | nil => intro y hy; cases hy
  | cons a r ih =>
    have hc := List.pairwise_cons.1 h
    rw [List.dropWhile_cons]
    split
    · exact ih hc.2
    · rename_i hq
      have hq' : t < a.2 := by simpa using hq
      intro y hy
      rcases List.mem_cons.1 hy with rfl | hy
      · exact hq'
      · have := hc.1 y hy; omega
theorem take_le {L : List Dl} (t : Int) : ∀ y ∈ L.takeWhile (fun y => decide (y.2 ≤ t)), y.2 ≤ t := by
  induction L with
  | nil => intro y hy; cases hy
  | cons a r ih =>
    rw [List.takeWhile_cons]
    split
    · rename_i hq
      intro y hy
      rcases List.mem_cons.1 hy with rfl | hy
      · simpa using hq
      · exact ih y hy
    · intro y hy; cases hy
theorem st_ins {L : List Dl} (h : Asc L) (x : Dl) : St (L ++ [x]) (ins x L) := by
  have e : L = L.takeWhile (fun y => decide (y.2 ≤ x.2)) ++ L.dropWhile (fun y => decide (y.2 ≤ x.2)) := (List.takeWhile_append_dropWhile).symm
  have := st_back (y := x) (x1 := L.takeWhile (fun y => decide (y.2 ≤ x.2))) (x2 := L.dropWhile (fun y => decide (y.2 ≤ x.2))) (by rw [← e]; exact h) (take_le x.2) (drop_gt h x.2)
  rw [← e] at this
  exact this
theorem fk_one (t : Int) (x : Dl) : fk t [x] = if x.2 = t then [x] else [] := by
  rw [fk_cons]
  rfl
theorem cat_low (E : Nat → List Dl) (s : Nat) (l : List Dl) : ∀ k, k ≤ s → cat (updD E s l) k = cat E k
  | 0, _ => rfl
  | k + 1, h => by
    rw [cat, cat, cat_low E s l k (by omega)]
    have : k ≠ s := by omega
    simp [updD, this]
theorem fk_upd (E : Nat → List Dl) (s : Nat) (x : Dl) (hx : x.2 % 64 = (s : Int)) (n : Nat) (hn : n ≤ 64) (hE : ∀ k, k < 64 → ∀ y ∈ E k, y.2 % 64 = (k : Int)) (t : Int) :
    ∀ k, s < k → k ≤ n → fk t (cat (updD E s (E s ++ [x])) k) = fk t (cat E k) ++ fk t [x]
  | 0, h, _ => by omega
  | k + 1, h, hk => by
    rw [cat, cat, fk_append, fk_append]
    by_cases e : k = s
    · subst e
      rw [cat_low E k _ k (Nat.le_refl _)]
      simp only [updD, if_true]
      rw [fk_append, List.append_assoc]
    · rw [fk_upd E s x hx n hn hE t k (by omega) (by omega)]
      simp only [updD, if_neg e]
      rw [List.append_assoc, List.append_assoc]
      congr 1
      rw [fk_one]
      split
      · rename_i ht
        have : fk t (E k) = [] := fk_none fun y hy => by
          have := hE k (by omega) y hy
          omega
        rw [this]
        simp
      · simp
theorem Lw.ins {L : List Dl} (h : Lw L) {x : Dl} (hx : okD x) (hn : ∀ y ∈ L, y.1 ≠ x.1) : Lw (ins x L) := by
  have hs := st_ins h.asc x
  refine ⟨hs.1, fun y hy => ?_, ?_⟩
  · rcases List.mem_append.1 (hs.mem.1 hy) with q | q
    · exact h.ok y q
    · rw [List.mem_singleton.1 q]; exact hx
  · have hp := (hs.perm.map (·.1)).nodup_iff.2
    refine hp ?_
    rw [List.map_append, List.map_singleton]
    refine List.nodup_append.2 ⟨h.once, by simp, ?_⟩
    intro a ha b hb
    obtain ⟨y, hy, rfl⟩ := List.mem_map.1 ha
    rw [List.mem_singleton.1 hb]
    exact hn y hy
def rid (id : Int) (L : List Dl) : List Dl := rest (fun x => x.1 == id) L
theorem rid_ne {id : Int} {L : List Dl} : ∀ y ∈ rid id L, y.1 ≠ id := by
  intro y hy
  have := (List.mem_filter.1 hy).2
  simpa using this
theorem Rg.set {D : Nat → List Dl} {L : List Dl} (h : Rg D L) {id at1 : Int} (hx : okD (id, at1)) {s : Nat} (hs : at1 % 64 = (s : Int)) : Rg (setD D id at1 s) (ins (id, at1) (rid id L)) := by
  have h1 := h.rest (fun x => x.1 == id)
  have hs64 : s < 64 := by omega
  refine ⟨?_, ?_, h1.lw.ins hx rid_ne⟩
  · refine (st_ins h1.lw.asc (id, at1)).of_fk fun t => ?_
    have e := fk_upd (fun s => Ytoaceeddcnijoaa.rest (fun x => x.1 == id) (D s)) s (id, at1) hs 64 (Nat.le_refl _) h1.sl t 64 hs64 (Nat.le_refl _)
    rw [fk_append]
    unfold setD
    rw [e, ← h1.st.2 t]
  · intro k hk x hx'
    unfold setD updD at hx'
    by_cases e : k = s
    · subst e
      rw [if_pos rfl] at hx'
      rcases List.mem_append.1 hx' with q | q
      · exact h1.sl k hk x q
      · rw [List.mem_singleton.1 q]; exact hs
    · rw [if_neg e] at hx'
      exact h1.sl k hk x hx'
theorem any_perm {l z : List Dl} (h : St l z) (p : Dl → Bool) : l.any p = z.any p := by
  rw [Bool.eq_iff_iff, List.any_eq_true, List.any_eq_true]
  constructor
  · rintro ⟨x, hx, hp⟩; exact ⟨x, h.mem.2 hx, hp⟩
  · rintro ⟨x, hx, hp⟩; exact ⟨x, h.mem.1 hx, hp⟩

/-! ### What the calls answer -/
def setE (id at1 : Int) : Int := if mayI id && mayT at1 then 0 else 2
def setL (id at1 : Int) (L : List Dl) : List Dl := if mayI id && mayT at1 then ins (id, at1) (rid id L) else L
def canE (id : Int) (L : List Dl) : Int := if mayI id then (if L.any (fun x => x.1 == id) then 0 else 6) else 2
def canL (id : Int) (L : List Dl) : List Dl := if mayI id then rid id L else L
def dueL (now : Int) (L : List Dl) : List Dl := rest (fun x => decide (x.2 ≤ now)) L
def dueO (now : Int) (L : List Dl) : List Int := (L.filter fun x => decide (x.2 ≤ now)).map (·.1)
theorem okD_of {id at1 : Int} (h : (mayI id && mayT at1) = true) : okD (id, at1) := by
  unfold mayI mayT at h
  simp only [Bool.and_eq_true, decide_eq_true_eq] at h
  exact ⟨⟨h.1.1, h.1.2⟩, h.2.1, h.2.2⟩
theorem Lw.set {L : List Dl} (h : Lw L) (id at1 : Int) : Lw (setL id at1 L) := by
  unfold setL
  split
  · rename_i q; exact (h.rest _).ins (okD_of q) rid_ne
  · exact h
theorem Lw.can {L : List Dl} (h : Lw L) (id : Int) : Lw (canL id L) := by
  unfold canL
  split
  · exact h.rest _
  · exact h
theorem Lw.due {L : List Dl} (h : Lw L) (now : Int) : Lw (dueL now L) := h.rest _
end Go.Proofs.Ytoaceeddcnijoaa
