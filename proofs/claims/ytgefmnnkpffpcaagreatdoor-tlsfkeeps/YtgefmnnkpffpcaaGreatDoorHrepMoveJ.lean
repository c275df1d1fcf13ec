/- Blocks are joined, parted, given and taken back: what words hold then. No Go is walked here. -/
import Derived.Test.YtgefmnnkpffpcaaGreatDoorHrepIn
namespace Go.Proofs.YtgefmnnkpffpcaaGreatDoor

theorem contig_glue {s n : Int} {A r r' : List Bl} : contig s (A ++ r) n → (∀ m, contig m r n → contig m r' n) → contig s (A ++ r') n := by
  induction A generalizing s with
  | nil => intro h k; exact k _ h
  | cons x A ih =>
    obtain ⟨b, z, f⟩ := x
    intro h k
    obtain ⟨h1, h2, h3, h4⟩ := h
    exact ⟨h1, h2, h3, ih h4 k⟩
/-- Two blocks become one. -/
theorem rep_join {n : Nat} {g : Mem} {A r : List Bl} {F : Nat → List Int} {X : Int → Prop} {a z b s : Int} (h : Rep n g (A ++ (a, z, true) :: (b, s, true) :: r) F X) (ha : X a) (hb : X b) :
    Rep n g (A ++ (a, z + s, true) :: r) F (fun y => X y ∧ y ≠ b) := by
  have hma : (a, z, true) ∈ A ++ (a, z, true) :: (b, s, true) :: r := by simp
  have hmb : (b, s, true) ∈ A ++ (a, z, true) :: (b, s, true) :: r := by simp
  have ba := h.blk hma
  have bb := h.blk hmb
  have hbe : b = a + z := contig_next h.ct
  simp only at ba bb
  have ct : contig 112 (A ++ (a, z + s, true) :: r) n := contig_glue h.ct fun m ⟨h1, h2, h3, h4, h5, h6, h7⟩ => ⟨h1, by omega, by omega, by rw [show m + (z + s) = m + z + s by omega]; exact h7⟩
  have hsub : ∀ x ∈ A ++ (a, z + s, true) :: r, x = (a, z + s, true) ∨ (x ∈ A ++ (a, z, true) :: (b, s, true) :: r ∧ x.1 ≠ a ∧ x.1 ≠ b) := fun x hx => by
    by_cases e : x = (a, z + s, true)
    · exact .inl e
    · right
      have hx' : x ∈ A ++ (a, z, true) :: (b, s, true) :: r := by
        simp only [List.mem_append, List.mem_cons] at hx ⊢
        rcases hx with q | q | q
        · exact .inl q
        · exact absurd q e
        · exact .inr (.inr (.inr q))
      refine ⟨hx', fun e2 => e (contig_inj ct hx (by simp) e2), fun e2 => ?_⟩
      have m : (a, z + s, true) ∈ A ++ (a, z + s, true) :: r := by simp
      rcases contig_apart ct hx m with q | q | q
      · exact e q
      · have := contig_mem ct hx; simp only at q; omega
      · simp only at q; omega
  have hsup : ∀ x ∈ A ++ (a, z, true) :: (b, s, true) :: r, x.1 ≠ a → x.1 ≠ b → x ∈ A ++ (a, z + s, true) :: r := fun x hx h1 h2 => by
    simp only [List.mem_append, List.mem_cons] at hx ⊢
    rcases hx with q | q | q | q
    · exact .inl q
    · rw [q] at h1; exact absurd rfl h1
    · rw [q] at h2; exact absurd rfl h2
    · exact .inr (.inr q)
  refine ⟨h.nn, ct, ?_, ?_, h.hd, h.lk, h.bt, ?_, h.nd, ?_, h.zz⟩
  · intro x hx q
    rcases hsub x hx with e | ⟨h1, h2, h3⟩
    · rw [e] at q; exact absurd ⟨ha, by show a ≠ b; omega⟩ q
    · exact h.sz x h1 (fun e => q ⟨e, h3⟩)
  · intro u hu y hy e q
    rcases hsub u hu with e1 | ⟨h1, h2, h3⟩
    · rw [e1] at q; exact absurd ⟨ha, by show a ≠ b; omega⟩ q
    · have q' : ¬ X u.1 := fun e => q ⟨e, h3⟩
      rcases hsub y hy with e1 | ⟨h4, h5, h6⟩
      · rw [e1] at e ⊢
        exact h.ah u h1 (a, z, true) hma e q'
      · exact h.ah u h1 y h4 e q'
  · intro c hc x
    rw [h.mb c hc x]
    constructor
    · rintro ⟨q, u, hu, hcu⟩
      refine ⟨fun e => q e.1, u, hsup _ hu ?_ ?_, hcu⟩
      · rintro rfl; exact q ha
      · rintro rfl; exact q hb
    · rintro ⟨q, u, hu, hcu⟩
      rcases hsub _ hu with e | ⟨h1, h2, h3⟩
      · simp only [Prod.mk.injEq] at e
        rw [e.1] at q
        exact absurd ⟨ha, by omega⟩ q
      · exact ⟨fun e => q ⟨e, h3⟩, u, h1, hcu⟩
  · rintro x ⟨q1, q2⟩
    by_cases e : x = a
    · subst e; exact ⟨z + s, by simp⟩
    · obtain ⟨u, hu⟩ := h.xf x q1
      exact ⟨u, hsup _ hu e q2⟩
/-- One block becomes two. -/
theorem rep_part {n : Nat} {g : Mem} {A r : List Bl} {F : Nat → List Int} {X : Int → Prop} {a z s : Int} (h : Rep n g (A ++ (a, z, true) :: r) F X) (ha : X a) (h1 : 16 ≤ s) (h2 : s % 8 = 0) (h3 : 16 ≤ z - s) :
    Rep n g (A ++ (a, s, true) :: (a + s, z - s, true) :: r) F (fun y => X y ∨ y = a + s) := by
  have hma : (a, z, true) ∈ A ++ (a, z, true) :: r := by simp
  have ba := h.blk hma
  simp only at ba
  have ct : contig 112 (A ++ (a, s, true) :: (a + s, z - s, true) :: r) n := contig_glue h.ct fun m ⟨q1, q2, q3, q4⟩ => ⟨q1, h1, h2, by omega, h3, by omega, by rw [show m + s + (z - s) = m + z by omega]; exact q4⟩
  have hnot : ∀ x ∈ A ++ (a, z, true) :: r, x.1 ≠ a + s := fun x hx e => by
    have m := h.blk hx
    rcases contig_apart h.ct hx hma with q | q | q
    · rw [q] at e; simp only at e; omega
    · simp only at q; omega
    · simp only at q; omega
  have hsub : ∀ x ∈ A ++ (a, s, true) :: (a + s, z - s, true) :: r, x = (a, s, true) ∨ x = (a + s, z - s, true) ∨ (x ∈ A ++ (a, z, true) :: r ∧ x.1 ≠ a) := fun x hx => by
    by_cases e1 : x = (a, s, true)
    · exact .inl e1
    · by_cases e2 : x = (a + s, z - s, true)
      · exact .inr (.inl e2)
      · refine .inr (.inr ⟨?_, fun e => e1 (contig_inj ct hx (by simp) e)⟩)
        simp only [List.mem_append, List.mem_cons] at hx ⊢
        rcases hx with q | q | q | q
        · exact .inl q
        · exact absurd q e1
        · exact absurd q e2
        · exact .inr (.inr q)
  have hsup : ∀ x ∈ A ++ (a, z, true) :: r, x.1 ≠ a → x ∈ A ++ (a, s, true) :: (a + s, z - s, true) :: r := fun x hx h1 => by
    simp only [List.mem_append, List.mem_cons] at hx ⊢
    rcases hx with q | q | q
    · exact .inl q
    · rw [q] at h1; exact absurd rfl h1
    · exact .inr (.inr (.inr q))
  refine ⟨h.nn, ct, ?_, ?_, h.hd, h.lk, h.bt, ?_, h.nd, ?_, h.zz⟩
  · intro x hx q
    rcases hsub x hx with e | e | ⟨e1, e2⟩
    · rw [e] at q; exact absurd (.inl ha) q
    · rw [e] at q; exact absurd (.inr rfl) q
    · exact h.sz x e1 (fun e => q (.inl e))
  · intro u hu y hy e q
    rcases hsub u hu with e1 | e1 | ⟨e1, e2⟩
    · rw [e1] at q; exact absurd (.inl ha) q
    · rw [e1] at q; exact absurd (.inr rfl) q
    · have q' : ¬ X u.1 := fun e => q (.inl e)
      rcases hsub y hy with e3 | e3 | ⟨e3, e4⟩
      · rw [e3] at e ⊢
        exact h.ah u e1 (a, z, true) hma e q'
      · rw [e3] at e
        simp only at e
        have m := h.blk e1
        rcases contig_apart h.ct e1 hma with w | w | w
        · rw [w] at e2; exact absurd rfl e2
        · simp only at w; omega
        · simp only at w; omega
      · exact h.ah u e1 y e3 e q'
  · intro c hc x
    rw [h.mb c hc x]
    constructor
    · rintro ⟨q, u, hu, hcu⟩
      refine ⟨fun e => ?_, u, hsup _ hu (fun e => by simp only at e; rw [e] at q; exact q ha), hcu⟩
      rcases e with e | e
      · exact q e
      · exact hnot _ hu e
    · rintro ⟨q, u, hu, hcu⟩
      rcases hsub _ hu with e | e | ⟨e1, e2⟩
      · simp only [Prod.mk.injEq] at e
        rw [e.1] at q
        exact absurd (.inl ha) q
      · simp only [Prod.mk.injEq] at e
        exact absurd (.inr e.1) q
      · exact ⟨fun e => q (.inl e), u, e1, hcu⟩
  · rintro x (q | q)
    · by_cases e : x = a
      · subst e; exact ⟨s, by simp⟩
      · obtain ⟨u, hu⟩ := h.xf x q
        exact ⟨u, hsup _ hu e⟩
    · subst q; exact ⟨z - s, by simp⟩
/-- A piece's block is free again, in no list yet. -/
theorem rep_back {n : Nat} {g : Mem} {A r : List Bl} {F : Nat → List Int} {X : Int → Prop} {a z : Int} (h : Rep n g (A ++ (a, z, false) :: r) F X) :
    Rep n g (A ++ (a, z, true) :: r) F (fun y => X y ∨ y = a) := by
  have hma : (a, z, false) ∈ A ++ (a, z, false) :: r := by simp
  have ct : contig 112 (A ++ (a, z, true) :: r) n := contig_glue h.ct fun m q => q
  have hsub : ∀ x ∈ A ++ (a, z, true) :: r, x = (a, z, true) ∨ (x ∈ A ++ (a, z, false) :: r ∧ x.1 ≠ a) := fun x hx => by
    by_cases e : x = (a, z, true)
    · exact .inl e
    · refine .inr ⟨?_, fun e2 => e (contig_inj ct hx (by simp) e2)⟩
      simp only [List.mem_append, List.mem_cons] at hx ⊢
      rcases hx with q | q | q
      · exact .inl q
      · exact absurd q e
      · exact .inr (.inr q)
  have hsup : ∀ x ∈ A ++ (a, z, false) :: r, x.1 ≠ a → x ∈ A ++ (a, z, true) :: r := fun x hx h1 => by
    simp only [List.mem_append, List.mem_cons] at hx ⊢
    rcases hx with q | q | q
    · exact .inl q
    · rw [q] at h1; exact absurd rfl h1
    · exact .inr (.inr q)
  have hne : ∀ x u, (x, u, true) ∈ A ++ (a, z, false) :: r → x ≠ a := fun x u hu e => by
    have := contig_inj h.ct hu hma e
    simp at this
  refine ⟨h.nn, ct, ?_, ?_, h.hd, h.lk, h.bt, ?_, h.nd, ?_, h.zz⟩
  · intro x hx q
    rcases hsub x hx with e | ⟨e1, e2⟩
    · rw [e] at q; exact absurd (.inr rfl) q
    · exact h.sz x e1 (fun e => q (.inl e))
  · intro u hu y hy e q
    rcases hsub u hu with e1 | ⟨e1, e2⟩
    · rw [e1] at q; exact absurd (.inr rfl) q
    · have q' : ¬ X u.1 := fun e => q (.inl e)
      rcases hsub y hy with e3 | ⟨e3, e4⟩
      · rw [e3] at e ⊢
        exact h.ah u e1 (a, z, false) hma e q'
      · exact h.ah u e1 y e3 e q'
  · intro c hc x
    rw [h.mb c hc x]
    constructor
    · rintro ⟨q, u, hu, hcu⟩
      refine ⟨fun e => ?_, u, hsup _ hu (hne x u hu), hcu⟩
      rcases e with e | e
      · exact q e
      · exact hne x u hu e
    · rintro ⟨q, u, hu, hcu⟩
      rcases hsub _ hu with e | ⟨e1, e2⟩
      · simp only [Prod.mk.injEq] at e
        exact absurd (.inr e.1) q
      · exact ⟨fun e => q (.inl e), u, e1, hcu⟩
  · rintro x (q | q)
    · obtain ⟨u, hu⟩ := h.xf x q
      exact ⟨u, hsup _ hu (hne x u hu)⟩
    · subst q; exact ⟨z, by simp⟩
/-- A block in no list becomes a piece's. -/
theorem rep_give {n : Nat} {g : Mem} {A r : List Bl} {F : Nat → List Int} {X : Int → Prop} {a z : Int} (h : Rep n g (A ++ (a, z, true) :: r) F X) (ha : X a) :
    Rep n (mark n g a z 0) (A ++ (a, z, false) :: r) F (fun y => X y ∧ y ≠ a) := by
  have hma : (a, z, true) ∈ A ++ (a, z, true) :: r := by simp
  have ba := h.blk hma
  simp only at ba
  obtain ⟨M1, M2, M3⟩ := mark_at (g := g) (fl := 0) h.ct
  obtain ⟨G, hG⟩ : ∃ G, mark n g a z 0 = G := ⟨_, rfl⟩
  rw [hG] at M1 M2 M3 ⊢
  clear hG
  have ct : contig 112 (A ++ (a, z, false) :: r) n := contig_glue h.ct fun m q => q
  have hsub : ∀ x ∈ A ++ (a, z, false) :: r, x = (a, z, false) ∨ (x ∈ A ++ (a, z, true) :: r ∧ x.1 ≠ a) := fun x hx => by
    by_cases e : x = (a, z, false)
    · exact .inl e
    · refine .inr ⟨?_, fun e2 => e (contig_inj ct hx (by simp) e2)⟩
      simp only [List.mem_append, List.mem_cons] at hx ⊢
      rcases hx with q | q | q
      · exact .inl q
      · exact absurd q e
      · exact .inr (.inr q)
  have hsup : ∀ x ∈ A ++ (a, z, true) :: r, x.1 ≠ a → x ∈ A ++ (a, z, false) :: r := fun x hx h1 => by
    simp only [List.mem_append, List.mem_cons] at hx ⊢
    rcases hx with q | q | q
    · exact .inl q
    · rw [q] at h1; exact absurd rfl h1
    · exact .inr (.inr q)
  have links : ∀ c, c < 24 → ∀ x ∈ F c, G (x + 8).toNat = g (x + 8).toNat ∧ G (x + 12).toNat = g (x + 12).toNat := fun c hc x hx => by
    have hq := (h.mb c hc x).1 hx
    obtain ⟨u, hu, -⟩ := hq.2
    have m := h.blk hu
    simp only at m
    have hap := contig_apart h.ct hma hu
    have hd : x + u ≤ a ∨ a + z ≤ x := by
      rcases hap with e | e | e
      · simp only [Prod.mk.injEq] at e
        rw [e.1] at ha
        exact absurd ha hq.1
      · exact .inr e
      · exact .inl e
    exact ⟨M3 (x + 8) (by omega) (by omega) (by omega), M3 (x + 12) (by omega) (by omega) (by omega)⟩
  refine ⟨h.nn, ct, ?_, ?_, ?_, ?_, ?_, ?_, h.nd, ?_, ?_⟩
  · intro x hx q
    rcases hsub x hx with e | ⟨e1, e2⟩
    · rw [e]; exact M1
    · have m := h.blk e1
      rw [M3 x.1 (by omega) e2 (by omega)]
      exact h.sz x e1 (fun e => q ⟨e, e2⟩)
  · intro u hu y hy e q
    have my := contig_mem ct hy
    have mu := contig_mem ct hu
    rcases hsub u hu with e1 | ⟨e1, e2⟩
    · rw [e1] at e ⊢
      simp only at e
      rw [e]
      exact M2 (by omega)
    · have q' : ¬ X u.1 := fun e => q ⟨e, e2⟩
      have hap := contig_apart h.ct e1 hma
      have hd : u.1 + u.2.1 ≤ a ∨ a + z ≤ u.1 := by
        rcases hap with w | w
        · rw [w] at e2; exact absurd rfl e2
        · exact w
      have m8 := my.2.2.2.2 (by decide)
      rw [M3 (y.1 + 4) (by omega) (by omega) (by omega)]
      rcases hsub y hy with e3 | ⟨e3, e4⟩
      · rw [e3] at e ⊢
        exact h.ah u e1 (a, z, true) hma e q'
      · exact h.ah u e1 y e3 e q'
  · intro c hc
    have := M3 (4 + c * 4) (by omega) (by omega) (by omega)
    rw [show (4 + (c : Int) * 4).toNat = 4 + c * 4 by omega] at this
    rw [this, h.hd c hc]
  · intro c hc
    exact (h.lk c hc).congr (links c hc)
  · obtain ⟨y, hy, hh⟩ := h.bt
    have := M3 0 (by omega) (by omega) (by omega)
    rw [show (0 : Int).toNat = 0 from rfl] at this
    exact ⟨y, this.trans hy, hh⟩
  · intro c hc x
    rw [h.mb c hc x]
    constructor
    · rintro ⟨q, u, hu, hcu⟩
      exact ⟨fun e => q e.1, u, hsup _ hu (fun e => by simp only at e; rw [e] at q; exact q ha), hcu⟩
    · rintro ⟨q, u, hu, hcu⟩
      rcases hsub _ hu with e | ⟨e1, e2⟩
      · simp at e
      · exact ⟨fun e => q ⟨e, e2⟩, u, e1, hcu⟩
  · rintro x ⟨q1, q2⟩
    obtain ⟨u, hu⟩ := h.xf x q1
    exact ⟨u, hsup _ hu q2⟩
  · obtain ⟨q1, q2, q3, q4⟩ := h.zz
    exact ⟨(M3 100 (by omega) (by omega) (by omega)).trans q1, (M3 104 (by omega) (by omega) (by omega)).trans q2, (M3 108 (by omega) (by omega) (by omega)).trans q3, (M3 116 (by omega) (by omega) (by omega)).trans q4⟩
end Go.Proofs.YtgefmnnkpffpcaaGreatDoor

/- A block is freed: what words hold then. No Go is walked here. -/
namespace Go.Proofs.YtgefmnnkpffpcaaGreatDoor

theorem lg_bd {z : Int} (h : 16 ≤ z) (h' : z < 65536) : 4 ≤ lg z ∧ lg z < 16 := by
  unfold lg
  have hz : z.toNat ≠ 0 := by omega
  exact ⟨(Nat.le_log2 hz).2 (by omega), (Nat.log2_lt hz).2 (by omega)⟩
theorem cls_bd {z : Int} (h : 16 ≤ z) (h' : z < 65536) : ∃ k : Nat, k < 24 ∧ cls z = k := by
  have hl := lg_bd h h'
  unfold cls
  refine ⟨(2 * ((lg z : Int) - 4) + z / 2 ^ (lg z - 1) % 2).toNat, ?_, ?_⟩ <;> omega
theorem Rep.iff {n : Nat} {g : Mem} {L : List Bl} {F : Nat → List Int} {X Y : Int → Prop} (h : Rep n g L F X) (e : ∀ y, X y ↔ Y y) : Rep n g L F Y := by
  have : X = Y := funext fun y => propext (e y)
  rw [← this]; exact h
theorem pieces_app (A B : List Bl) : piecesOf (A ++ B) = piecesOf A ++ piecesOf B := by
  induction A with
  | nil => rfl
  | cons x A ih =>
    obtain ⟨a, z, f⟩ := x
    cases f with
    | true => exact ih
    | false => show (a + 8, z) :: piecesOf (A ++ B) = (a + 8, z) :: piecesOf A ++ piecesOf B; rw [ih]; rfl
theorem Rep.free {n : Nat} {g : Mem} {L : List Bl} {F : Nat → List Int} {X : Int → Prop} (h : Rep n g L F X) {a z : Int} (hm : (a, z, true) ∈ L) (hx : ¬ X a) : freeAt n g (piecesOf L) a = some z := by
  obtain ⟨m1, m2, m3, m4, m5⟩ := h.blk hm
  simp only at m1 m2 m3 m4 m5
  have hr : rd n g a = z + 1 := by
    rw [rd_block m1 m5 m2 m4]
    exact h.sz _ hm hx
  have hp : hasP (piecesOf L) (a + 8) = false := by
    cases e : hasP (piecesOf L) (a + 8) with
    | false => rfl
    | true =>
      obtain ⟨y, hy, hy1, hy2⟩ := (hasP_pieces L _).1 e
      have := contig_inj h.ct hm hy (by simp only; omega)
      subst this
      cases hy1
  unfold freeAt
  rw [hr, hp]
  have e1 : ((z + 1) % 8 == 1) = true := by rw [beq_iff_eq]; omega
  have e2 : mayBe n a (z + 1 - 1) = true := by unfold mayBe; simp only [decide_eq_true_eq]; omega
  rw [e1, e2]
  simp
theorem freeAt_may {n : Nat} {g : Mem} {P : Pcs} {p s : Int} (h : freeAt n g P p = some s) : 112 ≤ p ∧ 16 ≤ s := by
  unfold freeAt at h
  split at h
  · cases h
  · rename_i hc
    simp only [Option.some.injEq] at h
    simp only [Bool.or_eq_true, not_or, Bool.not_eq_true, Bool.not_eq_false'] at hc
    have := hc.2
    unfold mayBe at this
    simp only [decide_eq_true_eq] at this
    omega
/-- freed, behind its first look. -/
def freedB (n : Nat) (P : Pcs) (a : Int) (g1 : Mem) (z1 : Int) : Mem :=
  match freeAt n g1 P (rd n g1 (a + 4)) with
  | some s => if rd n g1 (a + 4) + s = a then putIn n (takeOut n g1 (rd n g1 (a + 4)) s) (rd n g1 (a + 4)) (s + z1) else putIn n g1 a z1
  | none => putIn n g1 a z1
theorem freedB_some {n : Nat} {g : Mem} {P : Pcs} {a z s : Int} (h : freeAt n g P (a + z) = some s) : freed n g P a z = freedB n P a (takeOut n g (a + z) s) (z + s) := by
  unfold freed freedB
  rw [h]
  rfl
theorem freedB_none {n : Nat} {g : Mem} {P : Pcs} {a z : Int} (h : freeAt n g P (a + z) = none) : freed n g P a z = freedB n P a g z := by
  unfold freed freedB
  rw [h]
  rfl
/-- No two free blocks side by side. -/
def nf : List Bl → Prop
  | x :: y :: r => ¬ (x.2.2 = true ∧ y.2.2 = true) ∧ nf (y :: r)
  | _ => True
theorem nf_tail {x : Bl} {r : List Bl} (h : nf (x :: r)) : nf r := by
  cases r with
  | nil => trivial
  | cons y r => exact h.2
theorem nf_right {A B : List Bl} (h : nf (A ++ B)) : nf B := by
  induction A with
  | nil => exact h
  | cons x A ih => exact ih (nf_tail h)
theorem nf_left {A B : List Bl} (h : nf (A ++ B)) : nf A := by
  induction A with
  | nil => trivial
  | cons x A ih =>
    cases A with
    | nil => trivial
    | cons y A => exact ⟨h.1, ih h.2⟩
theorem nf_mid {A r : List Bl} {x : Bl} (h1 : nf A) (h2 : nf r) (h3 : ∀ u A', A = A' ++ [u] → u.2.2 = false) (h4 : ∀ y r', r = y :: r' → y.2.2 = false) : nf (A ++ x :: r) := by
  induction A with
  | nil =>
    cases r with
    | nil => trivial
    | cons y r => exact ⟨fun q => (by rw [h4 y r rfl] at q; exact absurd q.2 (by decide)), h2⟩
  | cons u A ih =>
    cases A with
    | nil => exact ⟨fun q => (by rw [h3 u [] rfl] at q; exact absurd q.1 (by decide)), ih trivial (fun u' A' e => by simp at e)⟩
    | cons v A => exact ⟨h1.1, ih h1.2 (fun u' A' e => h3 u' (u :: A') (by rw [e]; rfl))⟩
/-- A block in no list is laid into one, with what is free behind it and ahead of it. -/
theorem rep_freed {n : Nat} {g : Mem} {A r : List Bl} {F : Nat → List Int} {a z : Int} (h : Rep n g (A ++ (a, z, true) :: r) F (fun y => y = a)) :
    ∃ L' F', Rep n (freed n g (piecesOf (A ++ (a, z, true) :: r)) a z) L' F' (fun _ => False) ∧ piecesOf L' = piecesOf (A ++ (a, z, true) :: r) ∧ (nf A → nf r → nf L') := by
  obtain ⟨P, hP⟩ : ∃ P, piecesOf (A ++ (a, z, true) :: r) = P := ⟨_, rfl⟩
  -- behind it
  have step : ∃ g1 z1 r1 F1, freed n g P a z = freedB n P a g1 z1 ∧ Rep n g1 (A ++ (a, z1, true) :: r1) F1 (fun y => y = a) ∧ piecesOf (A ++ (a, z1, true) :: r1) = P ∧ (nf r → nf r1 ∧ ∀ y r', r1 = y :: r' → y.2.2 = false) := by
    cases r with
    | nil =>
      have he : a + z = n := (contig_split h.ct).2.2.2
      exact ⟨g, z, [], F, freedB_none (by rw [he, freeAt_end]), h, hP, fun q => ⟨q, fun y r' e => by cases e⟩⟩
    | cons y r' =>
      obtain ⟨b, s, f⟩ := y
      have hb : b = a + z := contig_next h.ct
      have hmb : (b, s, f) ∈ A ++ (a, z, true) :: (b, s, f) :: r' := by simp
      have hma : (a, z, true) ∈ A ++ (a, z, true) :: (b, s, f) :: r' := by simp
      have mb := h.blk hmb
      have ma := h.blk hma
      simp only at mb ma
      have hba : b ≠ a := by omega
      cases f with
      | false =>
        have := freeAt_taken (n := n) (g := g) hmb rfl
        rw [hP] at this
        simp only at this
        exact ⟨g, z, (b, s, false) :: r', F, freedB_none (by rw [← hb, this]), h, hP, fun q => ⟨q, fun y r' e => by cases e; rfl⟩⟩
      | true =>
        have hfr := h.free hmb hba
        rw [hP] at hfr
        obtain ⟨k, hk, hz⟩ := cls_bd (z := s) (by omega) (by have := h.nn; omega)
        obtain ⟨A1, B1, -, h1⟩ := rep_out h hk hmb hba hz
        have h2 := rep_join h1 (.inl rfl) (.inr rfl)
        rw [hb] at h2 hfr hba
        refine ⟨_, _, r', _, freedB_some hfr, h2.iff fun y => ?_, ?_, fun q => ⟨nf_tail q, fun y r2 e => by
          subst e
          cases e2 : y.2.2 with
          | false => rfl
          | true => exact absurd ⟨rfl, e2⟩ q.1⟩⟩
        · constructor
          · rintro ⟨q | q, q2⟩
            · exact q
            · exact absurd q q2
          · intro q; exact ⟨.inl q, by omega⟩
        · rw [← hP, pieces_app, pieces_app]; rfl
  obtain ⟨g1, z1, r1, F1, e1, h1, hP1, hN⟩ := step
  have hma : (a, z1, true) ∈ A ++ (a, z1, true) :: r1 := by simp
  have ma := h1.blk hma
  simp only at ma
  have put : (∀ u A', A = A' ++ [u] → u.2.2 = false) → ∃ L' F', Rep n (putIn n g1 a z1) L' F' (fun _ => False) ∧ piecesOf L' = P ∧ (nf A → nf r → nf L') := by
    intro hlast
    obtain ⟨k, hk, hz⟩ := cls_bd (z := z1) (by omega) (by have := h1.nn; omega)
    exact ⟨_, _, (rep_in h1 hk hma rfl hz).iff fun y => ⟨fun q => q.2 q.1, fun q => q.elim⟩, hP1, fun n1 n2 => nf_mid n1 (hN n2).1 hlast (hN n2).2⟩
  rw [hP, e1]
  unfold freedB
  rcases List.eq_nil_or_concat A with rfl | ⟨A', x, hA⟩
  · have ha : a = 112 := h1.ct.1
    cases hf : freeAt n g1 P (rd n g1 (a + 4)) with
    | none => exact put (fun u A' e => by simp at e)
    | some s =>
      have := freeAt_may hf
      simp only
      rw [if_neg (by omega)]
      exact put (fun u A' e => by simp at e)
  · obtain ⟨p, s, f⟩ := x
    rw [List.concat_eq_append] at hA
    subst hA
    have hL : (A' ++ [(p, s, f)]) ++ (a, z1, true) :: r1 = A' ++ (p, s, f) :: (a, z1, true) :: r1 := by simp
    rw [hL] at h1 hP1 hma
    have hpa : a = p + s := contig_next h1.ct
    have hmp : (p, s, f) ∈ A' ++ (p, s, f) :: (a, z1, true) :: r1 := by simp
    have mp := h1.blk hmp
    simp only at mp
    have hne : p ≠ a := by omega
    have hw : hasW n (a + 4) = true := by unfold hasW; simp only [decide_eq_true_eq]; omega
    have hr : rd n g1 (a + 4) = p := by
      unfold rd
      rw [if_pos hw]
      exact h1.ah _ hmp _ hma hpa hne
    rw [hr]
    cases f with
    | false =>
      have := freeAt_taken (n := n) (g := g1) hmp rfl
      rw [hP1] at this
      simp only at this
      rw [this]
      exact put (fun u A2 e => by
        have := List.append_inj_right' e rfl
        simp only [List.cons.injEq, and_true] at this
        rw [← this])
    | true =>
      have hfr := h1.free hmp hne
      rw [hP1] at hfr
      rw [hfr]
      simp only
      rw [if_pos hpa.symm]
      obtain ⟨k, hk, hz⟩ := cls_bd (z := s) (by omega) (by have := h1.nn; omega)
      obtain ⟨A1, B1, -, h2⟩ := rep_out h1 hk hmp hne hz
      have h3 := rep_join h2 (.inr rfl) (.inl rfl)
      have hm3 : (p, s + z1, true) ∈ A' ++ (p, s + z1, true) :: r1 := by simp
      have m3 := h3.blk hm3
      simp only at m3
      obtain ⟨k', hk', hz'⟩ := cls_bd (z := s + z1) (by omega) (by have := h3.nn; omega)
      have h4 := rep_in h3 hk' hm3 ⟨.inr rfl, hne⟩ hz'
      refine ⟨_, _, h4.iff fun y => ⟨?_, fun q => q.elim⟩, ?_, fun n1 n2 => nf_mid (nf_left n1) (hN n2).1 (fun u A2 e => ?_) (hN n2).2⟩
      · rintro ⟨⟨q | q, q1⟩, q2⟩
        · exact q1 q
        · exact q2 q
      · rw [← hP1, pieces_app, pieces_app]; rfl
      · rw [e, List.append_assoc] at n1
        have := (nf_right n1).1
        cases e2 : u.2.2 with
        | false => rfl
        | true => exact absurd ⟨e2, rfl⟩ this
end Go.Proofs.YtgefmnnkpffpcaaGreatDoor
