/- A block is laid into its list: what words hold then. No Go is walked here. -/
import Derived.Test.YtgefmnnkpffpcaaGreatDoorHrepListJ
namespace Go.Proofs.YtgefmnnkpffpcaaGreatDoor

/-- The words behind putIn. -/
theorem putIn_at {n : Nat} {g : Mem} {L : List Bl} {F : Nat → List Int} {X : Int → Prop} (h : Rep n g L F X) {k : Nat} (hk : k < 24) {a z : Int} (hm : (a, z, true) ∈ L) (hX : X a) (hz : cls z = k) :
    putIn n g a z (4 + k * 4) = a ∧ putIn n g a z 0 = bitOf (g 0) k true ∧ putIn n g a z (a + 8).toNat = (F k).headD 0 ∧ putIn n g a z (a + 12).toNat = 0 ∧ (∀ f r, F k = f :: r → putIn n g a z (f + 12).toNat = a) ∧
      putIn n g a z a.toNat = z + 1 ∧ (a + z < n → putIn n g a z (a + z + 4).toNat = a) ∧
      ∀ b : Int, 0 < b → b ≠ 4 + k * 4 → b ≠ a → b ≠ a + z + 4 → b ≠ a + 8 → b ≠ a + 12 → (∀ f r, F k = f :: r → b ≠ f + 12) → putIn n g a z b.toNat = g b.toNat := by
  have hn : 112 ≤ n := by have := contig_le h.ct; omega
  have ha := h.blk hm
  simp only at ha
  obtain ⟨A0, r0, hL⟩ := List.append_of_mem hm
  have hc := h.ct
  rw [hL] at hc
  obtain ⟨M1, M2, M3⟩ := mark_at (g := g) (fl := 1) hc
  have hw : ∀ x, (112 ≤ x ∧ x % 8 = 0 ∧ x + 16 ≤ (n : Int)) → hasW n (x + 8) = true ∧ hasW n (x + 12) = true := fun x hx => by
    unfold hasW; simp only [decide_eq_true_eq]; omega
  have hmem : ∀ x ∈ F k, (112 ≤ x ∧ x % 8 = 0 ∧ x + 16 ≤ (n : Int)) ∧ (x + 16 ≤ a ∨ a + z ≤ x) := fun x hx => by
    have hq := (h.mb k hk x).1 hx
    obtain ⟨u, hu, -⟩ := hq.2
    have m := h.blk hu
    simp only at m
    refine ⟨by omega, ?_⟩
    rcases contig_apart h.ct hm hu with e | e | e
    · simp only [Prod.mk.injEq] at e
      rw [e.1] at hX
      exact absurd hX hq.1
    · simp only at e; right; omega
    · simp only at e; left; omega
  obtain ⟨gm, hgm⟩ : ∃ gm, mark n g a z 1 = gm := ⟨_, rfl⟩
  have hf : rd n gm (4 + cls z * 4) = (F k).headD 0 := by
    unfold rd
    rw [hz, if_pos (hasW_head hn (by omega) (by omega)), ← hgm, M3 (4 + k * 4) (by omega) (by omega) (by omega), show (4 + (k : Int) * 4).toNat = 4 + k * 4 by omega, h.hd k hk]
  have nB : (F k).headD 0 ≠ 0 → ∃ y r, F k = y :: r := fun e => by
    cases hh : F k with
    | nil => rw [hh] at e; exact absurd rfl e
    | cons y r => exact ⟨y, r, rfl⟩
  have q8 : ((F k).headD 0) % 8 = 0 := by
    by_cases e : (F k).headD 0 = 0
    · rw [e]; rfl
    · obtain ⟨y, r, e2⟩ := nB e
      rw [e2]
      exact (hmem y (by rw [e2]; simp)).1.2.1
  have hfa : (F k).headD 0 ≠ a := by
    by_cases e : (F k).headD 0 = 0
    · omega
    · obtain ⟨y, r, e2⟩ := nB e
      have := hmem y (by rw [e2]; simp)
      rw [e2]
      show y ≠ a
      omega
  rw [hgm] at M1 M2 M3
  obtain ⟨P1, P2, P3, P4⟩ := putIn1_at (n := n) (g := gm) (a := a) (f := (F k).headD 0) (hw a (by omega)).1 (hw a (by omega)).2
    (fun e => by obtain ⟨y, r, e2⟩ := nB e; rw [e2]; exact (hw y (hmem y (by rw [e2]; simp)).1).2) hfa (by omega)
  obtain ⟨D1, D2, D3⟩ := told_at (n := n) (g := putIn1 n gm a ((F k).headD 0)) (c := cls z) (f := a) hn (by omega) (by omega)
  unfold putIn
  rw [hgm, hf]
  rw [hz] at D1 D2 D3 ⊢
  have ek : (4 + (k : Int) * 4).toNat = 4 + k * 4 := by omega
  rw [ek] at D1
  have head : ∀ b : Int, (∀ f r, F k = f :: r → b ≠ f + 12) → ((F k).headD 0 ≠ 0 → b ≠ (F k).headD 0 + 12) := fun b hb e => by
    obtain ⟨y, r, e2⟩ := nB e
    rw [e2]; exact hb y r e2
  refine ⟨D1, ?_, ?_, ?_, ?_, ?_, ?_, ?_⟩
  · rw [D2]
    have e1 := P4 0 (by omega) (by omega) (by omega) (head 0 fun f r e => by have := hmem f (by rw [e]; simp); omega)
    have e2 := M3 0 (by omega) (by omega) (by omega)
    rw [show (0 : Int).toNat = 0 from rfl] at e1 e2
    rw [e1, e2, show ((k : Int)).toNat = k by omega, show (a != 0) = true by simp; omega]
  · rw [D3 (a + 8) (by omega) (by omega)]; exact P1
  · rw [D3 (a + 12) (by omega) (by omega)]; exact P2
  · intro f r e
    have hq := hmem f (by rw [e]; simp)
    rw [D3 (f + 12) (by omega) (by omega)]
    rw [e] at P3
    rw [e]
    exact P3 (by show f ≠ 0; omega)
  · rw [D3 a (by omega) (by omega), P4 a (by omega) (by omega) (by omega) (head a fun f r e => by have := hmem f (by rw [e]; simp); omega)]
    exact M1
  · intro hlt
    rw [D3 (a + z + 4) (by omega) (by omega), P4 (a + z + 4) (by omega) (by omega) (by omega) (head _ fun f r e => by have := hmem f (by rw [e]; simp); omega)]
    exact M2 hlt
  · intro b b0 b1 b2 b3 b4 b5 b6
    rw [D3 b b0 b1, P4 b (by omega) b4 b5 (head b b6), M3 b (by omega) b2 b3]

theorem contig_next {s n : Int} {A r : List Bl} {u y : Bl} (h : contig s (A ++ u :: y :: r) n) : y.1 = u.1 + u.2.1 := by
  obtain ⟨a, z, f⟩ := u
  obtain ⟨b, w, q⟩ := y
  exact (contig_split h).2.2.2.1

theorem rep_in {n : Nat} {g : Mem} {L : List Bl} {F : Nat → List Int} {X : Int → Prop} (h : Rep n g L F X) {k : Nat} (hk : k < 24) {a z : Int} (hm : (a, z, true) ∈ L) (hX : X a) (hz : cls z = k) :
    Rep n (putIn n g a z) L (fun c => if c = k then a :: F k else F c) (fun y => X y ∧ y ≠ a) := by
  obtain ⟨u1, u2, u3, u4, u5, u6, u7, u8⟩ := putIn_at h hk hm hX hz
  obtain ⟨G, hG⟩ : ∃ G, putIn n g a z = G := ⟨_, rfl⟩
  rw [hG] at u1 u2 u3 u4 u5 u6 u7 u8 ⊢
  clear hG
  have ha := h.blk hm
  simp only at ha
  have hno : ∀ c, c < 24 → a ∉ F c := fun c hc hh => ((h.mb c hc a).1 hh).1 hX
  have hgeC : ∀ c, c < 24 → ∀ x ∈ F c, (112 ≤ x ∧ x % 8 = 0) ∧ (x + 16 ≤ a ∨ a + z ≤ x) := fun c hc x hx => by
    have hq := (h.mb c hc x).1 hx
    obtain ⟨u, hu, -⟩ := hq.2
    have m := h.blk hu
    simp only at m
    refine ⟨by omega, ?_⟩
    rcases contig_apart h.ct hm hu with e | e | e
    · simp only [Prod.mk.injEq] at e
      rw [e.1] at hX
      exact absurd hX hq.1
    · simp only at e; right; omega
    · simp only at e; left; omega
  have hge := hgeC k hk
  have hd1 : ∀ f r, F k = f :: r → f ∈ F k := fun f r e => by rw [e]; simp
  refine ⟨h.nn, h.ct, ?_, ?_, ?_, ?_, ?_, ?_, ?_, ?_, ?_⟩
  · intro b hb hx
    by_cases e : b.1 = a
    · have := contig_inj h.ct hb hm e
      subst this
      exact u6
    · have hnx : ¬ X b.1 := fun q => hx ⟨q, e⟩
      have m := h.blk hb
      have f1 := h.far hb hm
      simp only at f1
      rw [u8 b.1 (by omega) (by omega) e (by omega) (by omega) (by omega) (fun f r e => by have := hge f (hd1 f r e); omega)]
      exact h.sz b hb hnx
  · intro u hu y hy hnx hx
    have my := h.blk hy
    have mu := h.blk hu
    by_cases ea : u.1 = a
    · have := contig_inj h.ct hu hm ea
      subst this
      simp only at hnx
      rw [hnx]
      exact u7 (by omega)
    · have hnX : ¬ X u.1 := fun q => hx ⟨q, ea⟩
      have f1 := h.far hy hm
      have f2 := contig_apart h.ct hu hm
      simp only at f1 f2
      have f3 : u.1 + u.2.1 ≤ a ∨ a + z ≤ u.1 := by
        rcases f2 with e2 | e2
        · rw [e2] at ea; exact absurd rfl ea
        · exact e2
      rw [u8 (y.1 + 4) (by omega) (by omega) (by omega) (by omega) (by omega) (by omega) (fun f r e => ?_)]
      · exact h.ah u hu y hy hnx hnX
      · obtain ⟨v, hv, -⟩ := h.mem hk (hd1 f r e)
        have := h.far hy hv
        simp only at this
        omega
  · intro c hc
    by_cases e : c = k
    · subst e; rw [if_pos rfl]; exact u1
    · rw [if_neg e, ← h.hd c hc]
      have := u8 (4 + c * 4) (by omega) (by omega) (by omega) (by omega) (by omega) (by omega) (fun f r e => by have := hge f (hd1 f r e); omega)
      rw [show (4 + (c : Int) * 4).toNat = 4 + c * 4 by omega] at this
      exact this
  · intro c hc
    by_cases e : c = k
    · subst e
      rw [if_pos rfl]
      have hs := h.starts hc
      have hs2 : Starts (a :: F c) := ⟨fun x hx => by
        rcases List.mem_cons.1 hx with rfl | hx
        · omega
        · exact hs.1 x hx, List.pairwise_cons.2 ⟨fun x hx => by have := hge x hx; omega, hs.2⟩⟩
      refine links_put (h.lk c hc) hs2 u3 u4 u5 (fun b b0 b1 b2 b3 x hx hxe => ?_)
      have := hge x hx
      exact u8 b (by omega) (by omega) (by omega) (by omega) b1 b2 b3
    · rw [if_neg e]
      refine (h.lk c hc).congr fun x hx => ?_
      have hxg := hgeC c hc x hx
      have hne : ∀ f r, F k = f :: r → x ≠ f := fun f r e2 e3 => by
        subst e3
        exact e (h.one hc hk hx (hd1 x r e2))
      exact ⟨u8 (x + 8) (by omega) (by omega) (by omega) (by omega) (by omega) (by omega) (fun f r e => by have := hge f (hd1 f r e); omega), u8 (x + 12) (by omega) (by omega) (by omega) (by omega) (by omega) (by omega) (fun f r e => by have := hne f r e; omega)⟩
  · obtain ⟨y, hy, hy2, hbits⟩ := h.bt
    rw [hy] at u2
    obtain ⟨y', e1, e2, e3⟩ := bitOf_bits (b := true) hy2 hk
    refine ⟨y', by rw [u2, e1], e2, fun c hc => ?_⟩
    rw [e3 c hc]
    by_cases e : c = k
    · rw [if_pos e, if_pos e]; rfl
    · rw [if_neg e, if_neg e, hbits c hc]
  · intro c hc x
    by_cases e : c = k
    · subst e
      rw [if_pos rfl]
      constructor
      · intro hx
        rcases List.mem_cons.1 hx with rfl | hx
        · exact ⟨fun q => q.2 rfl, z, hm, hz⟩
        · have := (h.mb c hc x).1 hx
          exact ⟨fun q => this.1 q.1, this.2⟩
      · rintro ⟨q, hh⟩
        by_cases ex : x = a
        · rw [ex]; simp
        · exact List.mem_cons_of_mem _ ((h.mb c hc x).2 ⟨fun q' => q ⟨q', ex⟩, hh⟩)
    · rw [if_neg e, h.mb c hc x]
      constructor
      · rintro ⟨q1, q2⟩
        exact ⟨fun q => q1 q.1, q2⟩
      · rintro ⟨q1, z', hz', hcz⟩
        refine ⟨fun q => ?_, z', hz', hcz⟩
        by_cases ex : x = a
        · subst ex
          have := contig_inj h.ct hz' hm rfl
          simp only [Prod.mk.injEq, true_and, and_true] at this
          rw [this] at hcz
          omega
        · exact q1 ⟨q, ex⟩
  · intro c hc
    by_cases e : c = k
    · rw [if_pos e]; exact List.nodup_cons.2 ⟨hno k hk, h.nd k hk⟩
    · rw [if_neg e]; exact h.nd c hc
  · rintro x ⟨q, -⟩
    exact h.xf x q
  · have hz3 : ∀ b : Int, 100 ≤ b → b < 120 → b ≠ 112 → G b.toNat = g b.toNat := fun b b1 b2 b3 =>
      u8 b (by omega) (by omega) (by omega) (by omega) (by omega) (by omega) (fun f r e => by have := hge f (hd1 f r e); omega)
    obtain ⟨q1, q2, q3, q4⟩ := h.zz
    exact ⟨(hz3 100 (by omega) (by omega) (by omega)).trans q1, (hz3 104 (by omega) (by omega) (by omega)).trans q2, (hz3 108 (by omega) (by omega) (by omega)).trans q3, (hz3 116 (by omega) (by omega) (by omega)).trans q4⟩
end Go.Proofs.YtgefmnnkpffpcaaGreatDoor
