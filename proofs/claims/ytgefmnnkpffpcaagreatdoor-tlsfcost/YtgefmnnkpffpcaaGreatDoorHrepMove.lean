/- Blocks are joined, parted, given and taken back: what words hold then. No Go is walked here. -/
import Derived.Test.YtgefmnnkpffpcaaGreatDoorHrepIn
namespace Go.Proofs.YtgefmnnkpffpcaaGreatDoor

theorem contig_glue {s n : Int} {A r r' : List Bl} : contig s (A ++ r) n → (∀ m, contig m r n → contig m r' n) → contig s (A ++ r') n := by
  induction A generalizing s with
  | nil => intro h k; exact k _ h
  | cons x A ih =>
    obtain ⟨b, z, f⟩ := x
    intro h k
    obtain ⟨h1, h2, h3, h4⟩ := h
    exact ⟨h1, h2, h3, ih h4 k⟩
/-- Two blocks become one. -/
theorem rep_join {n : Nat} {g : Mem} {A r : List Bl} {F : Nat → List Int} {X : Int → Prop} {a z b s : Int} (h : Rep n g (A ++ (a, z, true) :: (b, s, true) :: r) F X) (ha : X a) (hb : X b) :
    Rep n g (A ++ (a, z + s, true) :: r) F (fun y => X y ∧ y ≠ b) := by
  have hma : (a, z, true) ∈ A ++ (a, z, true) :: (b, s, true) :: r := by simp
  have hmb : (b, s, true) ∈ A ++ (a, z, true) :: (b, s, true) :: r := by simp
  have ba := h.blk hma
  have bb := h.blk hmb
  have hbe : b = a + z := contig_next h.ct
  simp only at ba bb
  have ct : contig 112 (A ++ (a, z + s, true) :: r) n := contig_glue h.ct fun m ⟨h1, h2, h3, h4, h5, h6, h7⟩ => ⟨h1, by omega, by omega, by rw [show m + (z + s) = m + z + s by omega]; exact h7⟩
  have hsub : ∀ x ∈ A ++ (a, z + s, true) :: r, x = (a, z + s, true) ∨ (x ∈ A ++ (a, z, true) :: (b, s, true) :: r ∧ x.1 ≠ a ∧ x.1 ≠ b) := fun x hx => by
    by_cases e : x = (a, z + s, true)
    · exact .inl e
    · right
      have hx' : x ∈ A ++ (a, z, true) :: (b, s, true) :: r := by
        simp only [List.mem_append, List.mem_cons] at hx ⊢
        rcases hx with q | q | q
        · exact .inl q
        · exact absurd q e
        · exact .inr (.inr (.inr q))
      refine ⟨hx', fun e2 => e (contig_inj ct hx (by simp) e2), fun e2 => ?_⟩
      have m : (a, z + s, true) ∈ A ++ (a, z + s, true) :: r := by simp
      rcases contig_apart ct hx m with q | q | q
      · exact e q
      · have := contig_mem ct hx; simp only at q; omega
      · simp only at q; omega
  have hsup : ∀ x ∈ A ++ (a, z, true) :: (b, s, true) :: r, x.1 ≠ a → x.1 ≠ b → x ∈ A ++ (a, z + s, true) :: r := fun x hx h1 h2 => by
    simp only [List.mem_append, List.mem_cons] at hx ⊢
    rcases hx with q | q | q | q
    · exact .inl q
    · rw [q] at h1; exact absurd rfl h1
    · rw [q] at h2; exact absurd rfl h2
    · exact .inr (.inr q)
  refine ⟨h.nn, ct, ?_, ?_, h.hd, h.lk, h.bt, ?_, h.nd, ?_, h.zz⟩
  · intro x hx q
    rcases hsub x hx with e | ⟨h1, h2, h3⟩
    · rw [e] at q; exact absurd ⟨ha, by show a ≠ b; omega⟩ q
    · exact h.sz x h1 (fun e => q ⟨e, h3⟩)
  · intro u hu y hy e q
    rcases hsub u hu with e1 | ⟨h1, h2, h3⟩
    · rw [e1] at q; exact absurd ⟨ha, by show a ≠ b; omega⟩ q
    · have q' : ¬ X u.1 := fun e => q ⟨e, h3⟩
      rcases hsub y hy with e1 | ⟨h4, h5, h6⟩
      · rw [e1] at e ⊢
        exact h.ah u h1 (a, z, true) hma e q'
      · exact h.ah u h1 y h4 e q'
  · intro c hc x
    rw [h.mb c hc x]
    constructor
    · rintro ⟨q, u, hu, hcu⟩
      refine ⟨fun e => q e.1, u, hsup _ hu ?_ ?_, hcu⟩
      · rintro rfl; exact q ha
      · rintro rfl; exact q hb
    · rintro ⟨q, u, hu, hcu⟩
      rcases hsub _ hu with e | ⟨h1, h2, h3⟩
      · simp only [Prod.mk.injEq] at e
        rw [e.1] at q
        exact absurd ⟨ha, by omega⟩ q
      · exact ⟨fun e => q ⟨e, h3⟩, u, h1, hcu⟩
  · rintro x ⟨q1, q2⟩
    by_cases e : x = a
    · subst e; exact ⟨z + s, by simp⟩
    · obtain ⟨u, hu⟩ := h.xf x q1
      exact ⟨u, hsup _ hu e q2⟩
/-- One block becomes two. -/
theorem rep_part {n : Nat} {g : Mem} {A r : List Bl} {F : Nat → List Int} {X : Int → Prop} {a z s : Int} (h : Rep n g (A ++ (a, z, true) :: r) F X) (ha : X a) (h1 : 16 ≤ s) (h2 : s % 8 = 0) (h3 : 16 ≤ z - s) :
    Rep n g (A ++ (a, s, true) :: (a + s, z - s, true) :: r) F (fun y => X y ∨ y = a + s) := by
  have hma : (a, z, true) ∈ A ++ (a, z, true) :: r := by simp
  have ba := h.blk hma
  simp only at ba
  have ct : contig 112 (A ++ (a, s, true) :: (a + s, z - s, true) :: r) n := contig_glue h.ct fun m ⟨q1, q2, q3, q4⟩ => ⟨q1, h1, h2, by omega, h3, by omega, by rw [show m + s + (z - s) = m + z by omega]; exact q4⟩
  have hnot : ∀ x ∈ A ++ (a, z, true) :: r, x.1 ≠ a + s := fun x hx e => by
    have m := h.blk hx
    rcases contig_apart h.ct hx hma with q | q | q
    · rw [q] at e; simp only at e; omega
    · simp only at q; omega
    · simp only at q; omega
  have hsub : ∀ x ∈ A ++ (a, s, true) :: (a + s, z - s, true) :: r, x = (a, s, true) ∨ x = (a + s, z - s, true) ∨ (x ∈ A ++ (a, z, true) :: r ∧ x.1 ≠ a) := fun x hx => by
    by_cases e1 : x = (a, s, true)
    · exact .inl e1
    · by_cases e2 : x = (a + s, z - s, true)
      · exact .inr (.inl e2)
      · refine .inr (.inr ⟨?_, fun e => e1 (contig_inj ct hx (by simp) e)⟩)
        simp only [List.mem_append, List.mem_cons] at hx ⊢
        rcases hx with q | q | q | q
        · exact .inl q
        · exact absurd q e1
        · exact absurd q e2
        · exact .inr (.inr q)
  have hsup : ∀ x ∈ A ++ (a, z, true) :: r, x.1 ≠ a → x ∈ A ++ (a, s, true) :: (a + s, z - s, true) :: r := fun x hx h1 => by
    simp only [List.mem_append, List.mem_cons] at hx ⊢
    rcases hx with q | q | q
    · exact .inl q
    · rw [q] at h1; exact absurd rfl h1
    · exact .inr (.inr (.inr q))
  refine ⟨h.nn, ct, ?_, ?_, h.hd, h.lk, h.bt, ?_, h.nd, ?_, h.zz⟩
  · intro x hx q
    rcases hsub x hx with e | e | ⟨e1, e2⟩
    · rw [e] at q; exact absurd (.inl ha) q
    · rw [e] at q; exact absurd (.inr rfl) q
    · exact h.sz x e1 (fun e => q (.inl e))
  · intro u hu y hy e q
    rcases hsub u hu with e1 | e1 | ⟨e1, e2⟩
    · rw [e1] at q; exact absurd (.inl ha) q
    · rw [e1] at q; exact absurd (.inr rfl) q
    · have q' : ¬ X u.1 := fun e => q (.inl e)
      rcases hsub y hy with e3 | e3 | ⟨e3, e4⟩
      · rw [e3] at e ⊢
        exact h.ah u e1 (a, z, true) hma e q'
      · rw [e3] at e
        simp only at e
        have m := h.blk e1
        rcases contig_apart h.ct e1 hma with w | w | w
        · rw [w] at e2; exact absurd rfl e2
        · simp only at w; omega
        · simp only at w; omega
      · exact h.ah u e1 y e3 e q'
  · intro c hc x
    rw [h.mb c hc x]
    constructor
    · rintro ⟨q, u, hu, hcu⟩
      refine ⟨fun e => ?_, u, hsup _ hu (fun e => by simp only at e; rw [e] at q; exact q ha), hcu⟩
      rcases e with e | e
      · exact q e
      · exact hnot _ hu e
    · rintro ⟨q, u, hu, hcu⟩
      rcases hsub _ hu with e | e | ⟨e1, e2⟩
      · simp only [Prod.mk.injEq] at e
        rw [e.1] at q
        exact absurd (.inl ha) q
      · simp only [Prod.mk.injEq] at e
        exact absurd (.inr e.1) q
      · exact ⟨fun e => q (.inl e), u, e1, hcu⟩
  · rintro x (q | q)
    · by_cases e : x = a
      · subst e; exact ⟨s, by simp⟩
      · obtain ⟨u, hu⟩ := h.xf x q
        exact ⟨u, hsup _ hu e⟩
    · subst q; exact ⟨z - s, by simp⟩
/-- A piece's block is free again, in no list yet. -/
theorem rep_back {n : Nat} {g : Mem} {A r : List Bl} {F : Nat → List Int} {X : Int → Prop} {a z : Int} (h : Rep n g (A ++ (a, z, false) :: r) F X) :
    Rep n g (A ++ (a, z, true) :: r) F (fun y => X y ∨ y = a) := by
  have hma : (a, z, false) ∈ A ++ (a, z, false) :: r := by simp
  have ct : contig 112 (A ++ (a, z, true) :: r) n := contig_glue h.ct fun m q => q
  have hsub : ∀ x ∈ A ++ (a, z, true) :: r, x = (a, z, true) ∨ (x ∈ A ++ (a, z, false) :: r ∧ x.1 ≠ a) := fun x hx => by
    by_cases e : x = (a, z, true)
    · exact .inl e
    · refine .inr ⟨?_, fun e2 => e (contig_inj ct hx (by simp) e2)⟩
      simp only [List.mem_append, List.mem_cons] at hx ⊢
      rcases hx with q | q | q
      · exact .inl q
      · exact absurd q e
      · exact .inr (.inr q)
  have hsup : ∀ x ∈ A ++ (a, z, false) :: r, x.1 ≠ a → x ∈ A ++ (a, z, true) :: r := fun x hx h1 => by
    simp only [List.mem_append, List.mem_cons] at hx ⊢
    rcases hx with q | q | q
    · exact .inl q
    · rw [q] at h1; exact absurd rfl h1
    · exact .inr (.inr q)
  have hne : ∀ x u, (x, u, true) ∈ A ++ (a, z, false) :: r → x ≠ a := fun x u hu e => by
    have := contig_inj h.ct hu hma e
    simp at this
  refine ⟨h.nn, ct, ?_, ?_, h.hd, h.lk, h.bt, ?_, h.nd, ?_, h.zz⟩
  · intro x hx q
    rcases hsub x hx with e | ⟨e1, e2⟩
    · rw [e] at q; exact absurd (.inr rfl) q
    · exact h.sz x e1 (fun e => q (.inl e))
  · intro u hu y hy e q
    rcases hsub u hu with e1 | ⟨e1, e2⟩
    · rw [e1] at q; exact absurd (.inr rfl) q
    · have q' : ¬ X u.1 := fun e => q (.inl e)
      rcases hsub y hy with e3 | ⟨e3, e4⟩
      · rw [e3] at e ⊢
        exact h.ah u e1 (a, z, false) hma e q'
      · exact h.ah u e1 y e3 e q'
  · intro c hc x
    rw [h.mb c hc x]
    constructor
    · rintro ⟨q, u, hu, hcu⟩
      refine ⟨fun e => ?_, u, hsup _ hu (hne x u hu), hcu⟩
      rcases e with e | e
      · exact q e
      · exact hne x u hu e
    · rintro ⟨q, u, hu, hcu⟩
      rcases hsub _ hu with e | ⟨e1, e2⟩
      · simp only [Prod.mk.injEq] at e
        exact absurd (.inr e.1) q
      · exact ⟨fun e => q (.inl e), u, e1, hcu⟩
  · rintro x (q | q)
    · obtain ⟨u, hu⟩ := h.xf x q
      exact ⟨u, hsup _ hu (hne x u hu)⟩
    · subst q; exact ⟨z, by simp⟩
/-- A block in no list becomes a piece's. -/
theorem rep_give {n : Nat} {g : Mem} {A r : List Bl} {F : Nat → List Int} {X : Int → Prop} {a z : Int} (h : Rep n g (A ++ (a, z, true) :: r) F X) (ha : X a) :
    Rep n (mark n g a z 0) (A ++ (a, z, false) :: r) F (fun y => X y ∧ y ≠ a) := by
  have hma : (a, z, true) ∈ A ++ (a, z, true) :: r := by simp
  have ba := h.blk hma
  simp only at ba
  obtain ⟨M1, M2, M3⟩ := mark_at (g := g) (fl := 0) h.ct
  obtain ⟨G, hG⟩ : ∃ G, mark n g a z 0 = G := ⟨_, rfl⟩
  rw [hG] at M1 M2 M3 ⊢
  clear hG
  have ct : contig 112 (A ++ (a, z, false) :: r) n := contig_glue h.ct fun m q => q
  have hsub : ∀ x ∈ A ++ (a, z, false) :: r, x = (a, z, false) ∨ (x ∈ A ++ (a, z, true) :: r ∧ x.1 ≠ a) := fun x hx => by
    by_cases e : x = (a, z, false)
    · exact .inl e
    · refine .inr ⟨?_, fun e2 => e (contig_inj ct hx (by simp) e2)⟩
      simp only [List.mem_append, List.mem_cons] at hx ⊢
      rcases hx with q | q | q
      · exact .inl q
      · exact absurd q e
      · exact .inr (.inr q)
  have hsup : ∀ x ∈ A ++ (a, z, true) :: r, x.1 ≠ a → x ∈ A ++ (a, z, false) :: r := fun x hx h1 => by
    simp only [List.mem_append, List.mem_cons] at hx ⊢
    rcases hx with q | q | q
    · exact .inl q
    · rw [q] at h1; exact absurd rfl h1
    · exact .inr (.inr q)
  have links : ∀ c, c < 24 → ∀ x ∈ F c, G (x + 8).toNat = g (x + 8).toNat ∧ G (x + 12).toNat = g (x + 12).toNat := fun c hc x hx => by
    have hq := (h.mb c hc x).1 hx
    obtain ⟨u, hu, -⟩ := hq.2
    have m := h.blk hu
    simp only at m
    have hap := contig_apart h.ct hma hu
    have hd : x + u ≤ a ∨ a + z ≤ x := by
      rcases hap with e | e | e
      · simp only [Prod.mk.injEq] at e
        rw [e.1] at ha
        exact absurd ha hq.1
      · exact .inr e
      · exact .inl e
    exact ⟨M3 (x + 8) (by omega) (by omega) (by omega), M3 (x + 12) (by omega) (by omega) (by omega)⟩
  refine ⟨h.nn, ct, ?_, ?_, ?_, ?_, ?_, ?_, h.nd, ?_, ?_⟩
  · intro x hx q
    rcases hsub x hx with e | ⟨e1, e2⟩
    · rw [e]; exact M1
    · have m := h.blk e1
      rw [M3 x.1 (by omega) e2 (by omega)]
      exact h.sz x e1 (fun e => q ⟨e, e2⟩)
  · intro u hu y hy e q
    have my := contig_mem ct hy
    have mu := contig_mem ct hu
    rcases hsub u hu with e1 | ⟨e1, e2⟩
    · rw [e1] at e ⊢
      simp only at e
      rw [e]
      exact M2 (by omega)
    · have q' : ¬ X u.1 := fun e => q ⟨e, e2⟩
      have hap := contig_apart h.ct e1 hma
      have hd : u.1 + u.2.1 ≤ a ∨ a + z ≤ u.1 := by
        rcases hap with w | w
        · rw [w] at e2; exact absurd rfl e2
        · exact w
      have m8 := my.2.2.2.2 (by decide)
      rw [M3 (y.1 + 4) (by omega) (by omega) (by omega)]
      rcases hsub y hy with e3 | ⟨e3, e4⟩
      · rw [e3] at e ⊢
        exact h.ah u e1 (a, z, true) hma e q'
      · exact h.ah u e1 y e3 e q'
  · intro c hc
    have := M3 (4 + c * 4) (by omega) (by omega) (by omega)
    rw [show (4 + (c : Int) * 4).toNat = 4 + c * 4 by omega] at this
    rw [this, h.hd c hc]
  · intro c hc
    exact (h.lk c hc).congr (links c hc)
  · obtain ⟨y, hy, hh⟩ := h.bt
    have := M3 0 (by omega) (by omega) (by omega)
    rw [show (0 : Int).toNat = 0 from rfl] at this
    exact ⟨y, this.trans hy, hh⟩
  · intro c hc x
    rw [h.mb c hc x]
    constructor
    · rintro ⟨q, u, hu, hcu⟩
      exact ⟨fun e => q e.1, u, hsup _ hu (fun e => by simp only at e; rw [e] at q; exact q ha), hcu⟩
    · rintro ⟨q, u, hu, hcu⟩
      rcases hsub _ hu with e | ⟨e1, e2⟩
      · simp at e
      · exact ⟨fun e => q ⟨e, e2⟩, u, e1, hcu⟩
  · rintro x ⟨q1, q2⟩
    obtain ⟨u, hu⟩ := h.xf x q1
    exact ⟨u, hsup _ hu q2⟩
  · obtain ⟨q1, q2, q3, q4⟩ := h.zz
    exact ⟨(M3 100 (by omega) (by omega) (by omega)).trans q1, (M3 104 (by omega) (by omega) (by omega)).trans q2, (M3 108 (by omega) (by omega) (by omega)).trans q3, (M3 116 (by omega) (by omega) (by omega)).trans q4⟩
end Go.Proofs.YtgefmnnkpffpcaaGreatDoor
