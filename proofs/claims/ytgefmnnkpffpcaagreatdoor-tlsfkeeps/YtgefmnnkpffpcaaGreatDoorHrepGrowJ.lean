/- Realloc in place, and what is laid into pieces. No Go is walked here. -/
import Derived.Test.YtgefmnnkpffpcaaGreatDoorHrepKeepJ
namespace Go.Proofs.YtgefmnnkpffpcaaGreatDoor

theorem links_agree {g g' : Mem} : ∀ {l : List Int} {p : Int}, (∀ a ∈ l, g' (a + 8).toNat = g (a + 8).toNat ∧ g' (a + 12).toNat = g (a + 12).toNat) → Links g p l → Links g' p l
  | [], _, _, _ => trivial
  | a :: r, p, e, h => ⟨(e a (by simp)).2.trans h.1, (e a (by simp)).1.trans h.2.1, links_agree (fun b hb => e b (List.mem_cons_of_mem _ hb)) h.2.2⟩
/-- Blocks' own fronts are in no piece. -/
theorem inQ_front {n : Nat} {g : Mem} {L : List Bl} {F : Nat → List Int} {X : Int → Prop} (h : Rep n g L F X) {o : Int} (ho : inQ (piecesOf L) o) {x : Bl} (hx : x ∈ L) : (o < x.1 ∨ x.1 + 8 ≤ o) ∧ 120 ≤ o := by
  obtain ⟨p, hp, h1, h2⟩ := ho
  obtain ⟨a, ha, e⟩ := mem_pieces.1 hp
  have ba := h.blk ha
  have by1 := h.blk hx
  simp only at ba
  refine ⟨?_, by omega⟩
  rcases contig_apart h.ct ha hx with q | q | q
  · right; rw [← q]; simp only; omega
  · simp only at q; left; omega
  · simp only at q; right; omega
/-- Whatever is laid into pieces, the heap is as it was. -/
theorem Rep.lay {n : Nat} {g g' : Mem} {L : List Bl} {F : Nat → List Int} {X : Int → Prop} (h : Rep n g L F X) (e : ∀ o : Int, 0 ≤ o → ¬ inQ (piecesOf L) o → g' o.toNat = g o.toNat) : Rep n g' L F X := by
  have low : ∀ o : Nat, o < 120 → g' o = g o := fun o ho => by
    have := e o (by omega) (fun q => by obtain ⟨p, hp, h1, h2⟩ := q; have := pieces_at h.ct hp; omega)
    simpa using this
  refine ⟨h.nn, h.ct, ?_, ?_, ?_, ?_, ?_, h.mb, h.nd, h.xf, ?_⟩
  · intro b hb hX
    have := h.blk hb
    rw [e b.1 (by omega) (fun q => by have := (inQ_front h q hb).1; omega)]
    exact h.sz b hb hX
  · intro u hu y hy q hX
    have := h.blk hy
    rw [e (y.1 + 4) (by omega) (fun q => by have := (inQ_front h q hy).1; omega)]
    exact h.ah u hu y hy q hX
  · intro c hc
    rw [low _ (by omega)]
    exact h.hd c hc
  · intro c hc
    refine links_agree (fun a ha => ?_) (h.lk c hc)
    obtain ⟨z, hz, -⟩ := h.mem hc ha
    have := h.blk hz
    simp only at this
    exact ⟨e _ (by omega) (fun q => by have := (inQ_free h q hz).1; omega), e _ (by omega) (fun q => by have := (inQ_free h q hz).1; omega)⟩
  · rw [low 0 (by omega)]; exact h.bt
  · rw [low 100 (by omega), low 104 (by omega), low 108 (by omega), low 116 (by omega)]; exact h.zz

theorem del_del (P : Pcs) (k : Int) : delP (delP P k) k = delP P k := by simp [delP]
theorem give_del (n : Nat) (g : Mem) (P : Pcs) (a z s : Int) : give n g P a z s = give n g (delP P (a + 8)) a z s := by
  unfold give putP
  rw [del_del]
/-- grown: the words, and the block's size. -/
def grownP (n : Nat) (g : Mem) (P : Pcs) (a z s : Int) : Mem × Int :=
  if s ≤ z then (g, z) else
  match freeAt n g P (a + z) with
  | some t => if z + t < s then (g, z) else (takeOut n g (a + z) t, z + t)
  | none => (g, z)
def growX (z s : Int) (r : List Bl) (F : Nat → List Int) : Int × List Bl × (Nat → List Int) :=
  if s ≤ z then (z, r, F) else
  match r with
  | (b, t, true) :: r' => if z + t < s then (z, r, F) else (z + t, r', rmF F (kl t) b)
  | _ => (z, r, F)
theorem rep_grownX {n : Nat} {g : Mem} {A r : List Bl} {F : Nat → List Int} {a z : Int} (s : Int) (h : Rep n g (A ++ (a, z, false) :: r) F (fun _ => False)) :
    (grownP n g (piecesOf (A ++ (a, z, false) :: r)) a z s).2 = (growX z s r F).1 ∧
    Rep n (grownP n g (piecesOf (A ++ (a, z, false) :: r)) a z s).1 (A ++ (a, (growX z s r F).1, true) :: (growX z s r F).2.1) (growX z s r F).2.2 (fun y => y = a) ∧
    piecesOf (A ++ (a, (growX z s r F).1, true) :: (growX z s r F).2.1) = delP (piecesOf (A ++ (a, z, false) :: r)) (a + 8) ∧
    ∀ o, inQ (piecesOf (A ++ (a, z, false) :: r)) o → (grownP n g (piecesOf (A ++ (a, z, false) :: r)) a z s).1 o.toNat = g o.toNat := by
  have hd := pieces_del h.ct
  have h1 := (rep_back h).iff (Y := fun y => y = a) fun y => ⟨fun q => q.elim (fun e => e.elim) id, .inr⟩
  have still : (grownP n g (piecesOf (A ++ (a, z, false) :: r)) a z s) = (g, z) → growX z s r F = (z, r, F) → (grownP n g (piecesOf (A ++ (a, z, false) :: r)) a z s).2 = (growX z s r F).1 ∧
      Rep n (grownP n g (piecesOf (A ++ (a, z, false) :: r)) a z s).1 (A ++ (a, (growX z s r F).1, true) :: (growX z s r F).2.1) (growX z s r F).2.2 (fun y => y = a) ∧
      piecesOf (A ++ (a, (growX z s r F).1, true) :: (growX z s r F).2.1) = delP (piecesOf (A ++ (a, z, false) :: r)) (a + 8) ∧
      ∀ o, inQ (piecesOf (A ++ (a, z, false) :: r)) o → (grownP n g (piecesOf (A ++ (a, z, false) :: r)) a z s).1 o.toNat = g o.toNat := by
    intro e1 e2
    rw [e1, e2]
    exact ⟨rfl, h1, hd.symm, fun _ _ => rfl⟩
  by_cases hz : s ≤ z
  · exact still (if_pos hz) (if_pos hz)
  cases r with
  | nil =>
    have he : a + z = n := (contig_split h.ct).2.2.2
    refine still ?_ (if_neg hz)
    unfold grownP
    rw [if_neg hz, he, freeAt_end]
  | cons y r' =>
    obtain ⟨b, t, f⟩ := y
    have hb : b = a + z := contig_next h.ct
    have hmb : (b, t, f) ∈ A ++ (a, z, false) :: (b, t, f) :: r' := by simp
    have hmb1 : (b, t, f) ∈ A ++ (a, z, true) :: (b, t, f) :: r' := by simp
    have ma := h.blk (x := (a, z, false)) (by simp)
    simp only at ma
    cases f with
    | false =>
      have := freeAt_taken (n := n) (g := g) hmb rfl
      simp only at this
      refine still ?_ (if_neg hz)
      unfold grownP
      rw [if_neg hz, ← hb, this]
    | true =>
      have hfr := h.free hmb (fun q => q)
      by_cases hs : z + t < s
      · refine still ?_ ?_
        · unfold grownP
          rw [if_neg hz, ← hb, hfr]
          exact if_pos hs
        · unfold growX
          rw [if_neg hz]
          exact if_pos hs
      · have e1 : grownP n g (piecesOf (A ++ (a, z, false) :: (b, t, true) :: r')) a z s = (takeOut n g b t, z + t) := by
          unfold grownP
          rw [if_neg hz, ← hb, hfr]
          exact if_neg hs
        have e2 : growX z s ((b, t, true) :: r') F = (z + t, r', rmF F (kl t) b) := by
          unfold growX
          rw [if_neg hz]
          exact if_neg hs
        rw [e1, e2]
        have hne : b ≠ a := by omega
        have q1 := rep_outX h1 hmb1 hne
        have q2 := (rep_join q1 (.inl rfl) (.inr rfl)).iff (Y := fun y => y = a) fun y => ⟨fun q => q.1.elim id (fun e => absurd e q.2), fun q => ⟨.inl q, by omega⟩⟩
        refine ⟨rfl, q2, ?_, fun o ho => out_keep h hmb (fun q => q) ho⟩
        show piecesOf (A ++ (a, z + t, true) :: r') = _
        rw [hd, pieces_app, pieces_app]; rfl
/-- What a block that is given has of words stays. -/
theorem give_own {n : Nat} {g : Mem} {A r : List Bl} {F : Nat → List Int} {a z s : Int} (h : Rep n g (A ++ (a, z, true) :: r) F (fun y => y = a)) (h1 : 16 ≤ s) (h2 : s % 8 = 0) {o : Int} (ho : a + 8 ≤ o) (ho2 : o < a + if 16 ≤ z - s then s else z) :
    (give n g (piecesOf (A ++ (a, z, true) :: r)) a z s).1 o.toNat = g o.toNat := by
  have hma : (a, z, true) ∈ A ++ (a, z, true) :: r := by simp
  have ma := h.blk hma
  simp only at ma
  unfold give
  by_cases hb : 16 ≤ z - s
  · rw [if_pos hb] at ho2 ⊢
    simp only
    rw [pieces_put h.ct]
    have q1 := rep_part h rfl h1 h2 hb
    have q2 := (rep_give q1 (.inl rfl)).iff (Y := fun y => y = a + s) fun y => ⟨fun q => q.1.elim (fun e => absurd e q.2) id, fun q => ⟨.inr q, by omega⟩⟩
    have hL : A ++ (a, s, false) :: (a + s, z - s, true) :: r = (A ++ [(a, s, false)]) ++ (a + s, z - s, true) :: r := by simp
    have hc := q1.ct
    rw [hL] at q2
    have hP : piecesOf ((A ++ [(a, s, false)]) ++ (a + s, z - s, true) :: r) = piecesOf A ++ (a + 8, s) :: piecesOf r := by
      rw [pieces_app, pieces_app]
      show (piecesOf A ++ [(a + 8, s)]) ++ piecesOf r = _
      simp
    have hin : inQ (piecesOf ((A ++ [(a, s, false)]) ++ (a + s, z - s, true) :: r)) o := ⟨(a + 8, s), by rw [hP]; simp, ho, by show o < a + 8 - 8 + s; omega⟩
    have k1 := freed_keep q2 hin
    rw [hP] at k1
    rw [k1]
    obtain ⟨-, -, m3⟩ := mark_at (g := g) (fl := 0) hc
    exact m3 o (by omega) (by omega) (by omega)
  · rw [if_neg hb] at ho2 ⊢
    simp only
    obtain ⟨-, -, m3⟩ := mark_at (g := g) (fl := 0) h.ct
    exact m3 o (by omega) (by omega) (by omega)
/-- Realloc within the block, or into what is free behind it. -/
theorem rep_reallocX {n : Nat} {g : Mem} {A r : List Bl} {F : Nat → List Int} {a z s : Int} (h : Rep n g (A ++ (a, z, false) :: r) F (fun _ => False)) (h1 : 16 ≤ s) (h2 : s % 8 = 0) (h3 : s ≤ (growX z s r F).1) :
    Rep n (give n (grownP n g (piecesOf (A ++ (a, z, false) :: r)) a z s).1 (piecesOf (A ++ (a, z, false) :: r)) a (growX z s r F).1 s).1
      (giveX A a (growX z s r F).1 s (growX z s r F).2.1 (growX z s r F).2.2).1 (giveX A a (growX z s r F).1 s (growX z s r F).2.1 (growX z s r F).2.2).2 (fun _ => False) ∧
    (give n (grownP n g (piecesOf (A ++ (a, z, false) :: r)) a z s).1 (piecesOf (A ++ (a, z, false) :: r)) a (growX z s r F).1 s).2 = piecesOf A ++ (a + 8, if 16 ≤ (growX z s r F).1 - s then s else (growX z s r F).1) :: piecesOf (growX z s r F).2.1 ∧
    (∀ o, inQ (piecesOf A ++ piecesOf r) o ∨ (a + 8 ≤ o ∧ o < a + z ∧ o < a + s) → (give n (grownP n g (piecesOf (A ++ (a, z, false) :: r)) a z s).1 (piecesOf (A ++ (a, z, false) :: r)) a (growX z s r F).1 s).1 o.toNat = g o.toNat) := by
  obtain ⟨e1, e2, e3, e4⟩ := rep_grownX s h
  obtain ⟨z1, hz1⟩ : ∃ z1, (growX z s r F).1 = z1 := ⟨_, rfl⟩
  obtain ⟨r1, hr1⟩ : ∃ r1, (growX z s r F).2.1 = r1 := ⟨_, rfl⟩
  obtain ⟨F1, hF1⟩ : ∃ F1, (growX z s r F).2.2 = F1 := ⟨_, rfl⟩
  rw [hz1] at h3
  rw [hz1, hr1, hF1] at e2 ⊢
  rw [hz1, hr1] at e3
  rw [give_del, ← e3]
  have q := rep_givenX e2 h1 h2
  refine ⟨q.1, q.2, fun o ho => ?_⟩
  have hpp : piecesOf (A ++ (a, z1, true) :: r1) = piecesOf A ++ piecesOf r := by
    rw [e3, pieces_del h.ct, pieces_app]; rfl
  have hall : piecesOf (A ++ (a, z, false) :: r) = piecesOf A ++ (a + 8, z) :: piecesOf r := by
    rw [pieces_app]; rfl
  rcases ho with ho | ⟨o1, o2, o3⟩
  · rw [give_keep e2 h1 h2 (by rw [hpp]; exact ho)]
    refine e4 o ?_
    obtain ⟨p, hp, hp1⟩ := ho
    refine ⟨p, ?_, hp1⟩
    rw [hall]
    rcases List.mem_append.1 hp with q | q
    · exact List.mem_append.2 (.inl q)
    · exact List.mem_append.2 (.inr (List.mem_cons_of_mem _ q))
  · rw [give_own e2 h1 h2 o1 (by split <;> omega)]
    refine e4 o ⟨(a + 8, z), by rw [hall]; simp, o1, by show o < a + 8 - 8 + z; omega⟩
end Go.Proofs.YtgefmnnkpffpcaaGreatDoor

/- The heap behind each call, as the reference has it: Alloc, Aligned, Free, Realloc in place. No Go is walked here. -/
namespace Go.Proofs.YtgefmnnkpffpcaaGreatDoor

/-- Lists of classes that no block has. -/
def lo24 (F : Nat → List Int) : Prop := ∀ c, 24 ≤ c → F c = []
theorem lo_rm {F : Nat → List Int} (h : lo24 F) (k : Nat) (a : Int) : lo24 (rmF F k a) := by
  intro c hc
  unfold rmF
  split
  · rename_i e; rw [← e, h c hc]; rfl
  · exact h c hc
theorem lo_ad {F : Nat → List Int} (h : lo24 F) {k : Nat} (hk : k < 24) (a : Int) : lo24 (adF F k a) := by
  intro c hc
  unfold adF
  rw [if_neg (by omega)]
  exact h c hc
theorem kl_lt {z : Int} (h : 16 ≤ z) (h' : z < 65536) : kl z < 24 := by
  obtain ⟨k, hk, e⟩ := cls_bd h h'
  unfold kl
  omega
/-- A heap between calls. -/
structure Hs (n : Nat) (g : Mem) (L : List Bl) (F : Nat → List Int) : Prop where
  rep : Rep n g L F (fun _ => False)
  nf : nf L
  lo : lo24 F
theorem hs_new {n : Nat} (h0 : 128 ≤ n) (h1 : n ≤ 65536) (h8 : n % 8 = 0) : Hs n (putIn n (fun _ => 0) 112 (n - 112)) [(112, (n : Int) - 112, true)] (adF (fun _ => []) (kl ((n : Int) - 112)) 112) :=
  ⟨rep_newX h0 h1 h8, trivial, lo_ad (fun _ _ => rfl) (kl_lt (by omega) (by omega)) _⟩
/-- The reference's giving: the block is split, and the rest is put. -/
def giveR (A : List Bl) (a z s : Int) (r : List Bl) (F : Nat → List Int) : List Bl × (Nat → List Int) :=
  if 16 ≤ z - s then (A ++ (a, s, false) :: (a + s, z - s, true) :: r, adF F (kl (z - s)) (a + s)) else (A ++ (a, z, false) :: r, F)
theorem nf_head {a z : Int} {A r : List Bl} (h : nf (A ++ (a, z, true) :: r)) : ∀ y r', r = y :: r' → y.2.2 = false := by
  rintro y r' rfl
  have := (nf_right h).1
  cases e : y.2.2 with
  | false => rfl
  | true => exact absurd ⟨rfl, e⟩ this
theorem nf_give {A r : List Bl} {a z s : Int} {F : Nat → List Int} (h1 : nf A) (h2 : nf r) (h3 : ∀ y r', r = y :: r' → y.2.2 = false) : nf (giveR A a z s r F).1 := by
  unfold giveR
  split
  · exact nf_mid_taken h1 (nf_mid (A := []) trivial h2 (fun u A' e => by simp at e) h3)
  · exact nf_mid_taken h1 h2
theorem pieces_give {A r : List Bl} {a z s : Int} {F : Nat → List Int} : piecesOf (giveR A a z s r F).1 = piecesOf A ++ (a + 8, if 16 ≤ z - s then s else z) :: piecesOf r := by
  unfold giveR
  split <;> (simp only [pieces_app]; rfl)
/-- Alloc. -/
theorem hs_alloc {n : Nat} {g : Mem} {L : List Bl} {F : Nat → List Int} (h : Hs n g L F) {m : Int} (h1 : 16 ≤ needed m) (h2 : needed m % 8 = 0) (hen : ∀ a s g', find n g (piecesOf L) (needed m) = some (a, s, g') → needed m ≤ s) :
    (alloc n g (piecesOf L) m = none ∧ ∀ c, (clsFor (needed m)).toNat ≤ c → F c = []) ∨
    ∃ A a s r g', (∀ d, (clsFor (needed m)).toNat ≤ d → d < kl s → F d = []) ∧ (clsFor (needed m)).toNat ≤ kl s ∧ kl s < 24 ∧ (∃ l, F (kl s) = a :: l) ∧ L = A ++ (a, s, true) :: r ∧ needed m ≤ s ∧
      alloc n g (piecesOf L) m = some (a + 8, g', piecesOf (giveR A a s (needed m) r (rmF F (kl s) a)).1) ∧ Hs n g' (giveR A a s (needed m) r (rmF F (kl s) a)).1 (giveR A a s (needed m) r (rmF F (kl s) a)).2 ∧
      ∀ o, inQ (piecesOf L) o → g' o.toNat = g o.toNat := by
  rcases rep_findX h.rep (needed m) with ⟨e, hF⟩ | ⟨c, a, s, l, hc, hle, hlow, hF, hk, hm, hf, hR⟩
  · left
    refine ⟨by unfold alloc; rw [e], fun c hc => ?_⟩
    by_cases h24 : c < 24
    · exact hF c hc h24
    · exact h.lo c (by omega)
  · right
    have hs := hen a s _ hf
    obtain ⟨A, r, hL⟩ := List.append_of_mem hm
    subst hk
    have hh := nf_head (hL ▸ h.nf)
    have ma := h.rep.blk hm
    have hn := h.rep.nn
    simp only at ma
    rw [hL] at hR
    have q := rep_givenX hR h1 h2
    rw [give_ref hh] at q
    change Rep _ _ (giveR A a s (needed m) r (rmF F (kl s) a)).1 (giveR A a s (needed m) r (rmF F (kl s) a)).2 _ ∧ _ at q
    refine ⟨A, a, s, r, _, hlow, hle, hc, ⟨l, hF⟩, hL, hs, ?_, ⟨q.1, ?_, ?_⟩, fun o ho => ?_⟩
    · unfold alloc
      rw [hf]
      simp only
      rw [pieces_give, ← q.2, hL]
    · exact nf_give (nf_left (hL ▸ h.nf)) (nf_tail (nf_right (hL ▸ h.nf))) hh
    · unfold giveR
      split
      · exact lo_ad (lo_rm h.lo _ _) (kl_lt (by omega) (by omega)) _
      · exact lo_rm h.lo _ _
    · rw [give_keep hR h1 h2 (by rw [← hL]; exact ho)]
      exact out_keep h.rep hm (fun q => q) ho
/-- Free. -/
theorem nf_freedX {A r : List Bl} {F : Nat → List Int} {a z : Int} (hA : nf A) (hr : nf r) : nf (freedX A a z r F).1 := by
  have hb : nf (behX z r F).2.1 ∧ ∀ y r', (behX z r F).2.1 = y :: r' → y.2.2 = false := by
    unfold behX
    cases r with
    | nil => exact ⟨trivial, fun y r' e => by cases e⟩
    | cons y r' =>
      obtain ⟨b, s, f⟩ := y
      cases f with
      | true => exact ⟨nf_tail hr, nf_head (A := []) hr⟩
      | false => exact ⟨hr, fun y r' e => by cases e; rfl⟩
  unfold freedX
  rcases List.eq_nil_or_concat A with rfl | ⟨A', x, hA'⟩
  · exact nf_mid (A := []) trivial hb.1 (fun u A' e => by simp at e) hb.2
  · obtain ⟨p, s, f⟩ := x
    rw [List.concat_eq_append] at hA'
    subst hA'
    have hgl : (A' ++ [(p, s, f)]).getLast? = some (p, s, f) := by simp
    have hdl : (A' ++ [(p, s, f)]).dropLast = A' := by simp
    rw [hgl, hdl]
    cases f with
    | true =>
      refine nf_mid (nf_left hA) hb.1 (fun u A'' e => ?_) hb.2
      subst e
      have h3 : nf (A'' ++ u :: [(p, s, true)]) := by simpa using hA
      have h4 := (nf_right h3).1
      cases e : u.2.2 with
      | false => rfl
      | true => exact absurd ⟨e, rfl⟩ h4
    | false =>
      refine nf_mid hA hb.1 (fun u A'' e => ?_) hb.2
      have := List.append_inj_right' e rfl
      simp only [List.cons.injEq, and_true] at this
      rw [← this]
theorem lo_freedX {n : Nat} {A r : List Bl} {F : Nat → List Int} {a z : Int} {g : Mem} {X : Int → Prop} {f : Bool} (h : Rep n g (A ++ (a, z, f) :: r) F X) (hl : lo24 F) : lo24 (freedX A a z r F).2 := by
  have ma := h.blk (x := (a, z, f)) (by simp)
  have hn := h.nn
  simp only at ma
  have hb : lo24 (behX z r F).2.2 ∧ 16 ≤ (behX z r F).1 ∧ a + (behX z r F).1 ≤ n := by
    unfold behX
    cases r with
    | nil => exact ⟨hl, ma.2.1, ma.2.2.2.1⟩
    | cons y r' =>
      obtain ⟨b, s, f'⟩ := y
      cases f' with
      | true =>
        have mb := h.blk (x := (b, s, true)) (by simp)
        have hb : b = a + z := contig_next h.ct
        simp only at mb
        exact ⟨lo_rm hl _ _, by simp only; omega, by simp only; omega⟩
      | false => exact ⟨hl, ma.2.1, ma.2.2.2.1⟩
  unfold freedX
  rcases List.eq_nil_or_concat A with rfl | ⟨A', x, hA'⟩
  · exact lo_ad hb.1 (kl_lt hb.2.1 (by omega)) _
  · obtain ⟨p, s, f'⟩ := x
    rw [List.concat_eq_append] at hA'
    subst hA'
    have hgl : (A' ++ [(p, s, f')]).getLast? = some (p, s, f') := by simp
    rw [hgl]
    cases f' with
    | true =>
      have mp := h.blk (x := (p, s, true)) (by simp)
      have h2 := h.ct
      rw [show A' ++ [(p, s, true)] ++ (a, z, f) :: r = A' ++ (p, s, true) :: (a, z, f) :: r by simp] at h2
      have hb' : a = p + s := contig_next h2
      simp only at mp
      exact lo_ad (lo_rm hb.1 _ _) (kl_lt (by omega) (by omega)) _
    | false => exact lo_ad hb.1 (kl_lt hb.2.1 (by omega)) _
theorem hs_free {n : Nat} {g : Mem} {A r : List Bl} {F : Nat → List Int} {a z : Int} (h : Hs n g (A ++ (a, z, false) :: r) F) :
    Hs n (freed n g (delP (piecesOf (A ++ (a, z, false) :: r)) (a + 8)) a z) (freedX A a z r F).1 (freedX A a z r F).2 ∧
    ∀ o, inQ (piecesOf A ++ piecesOf r) o → freed n g (delP (piecesOf (A ++ (a, z, false) :: r)) (a + 8)) a z o.toNat = g o.toNat := by
  refine ⟨⟨rep_freeX h.rep, nf_freedX (nf_left h.nf) (nf_tail (nf_right h.nf)), lo_freedX h.rep h.lo⟩, fun o ho => ?_⟩
  rw [pieces_del h.rep.ct]
  have h1 := (rep_back h.rep).iff (Y := fun y => y = a) fun y => ⟨fun q => q.elim (fun e => e.elim) id, .inr⟩
  refine freed_keep h1 ?_
  rw [pieces_app]
  exact ho
/-- Realloc, in place. -/
theorem hs_grow {n : Nat} {g : Mem} {A r : List Bl} {F : Nat → List Int} {a z s : Int} (h : Hs n g (A ++ (a, z, false) :: r) F) : nf (growX z s r F).2.1 ∧ lo24 (growX z s r F).2.2 := by
  have hr := nf_tail (nf_right h.nf)
  unfold growX
  split
  · exact ⟨hr, h.lo⟩
  · cases r with
    | nil => exact ⟨trivial, h.lo⟩
    | cons y r' =>
      obtain ⟨b, t, f⟩ := y
      cases f with
      | false => exact ⟨hr, h.lo⟩
      | true =>
        simp only
        split
        · exact ⟨hr, h.lo⟩
        · exact ⟨nf_tail hr, lo_rm h.lo _ _⟩
theorem hs_realloc {n : Nat} {g : Mem} {A r : List Bl} {F : Nat → List Int} {a z s : Int} (h : Hs n g (A ++ (a, z, false) :: r) F) (h1 : 16 ≤ s) (h2 : s % 8 = 0) (h3 : s ≤ (growX z s r F).1) :
    Hs n (give n (grownP n g (piecesOf (A ++ (a, z, false) :: r)) a z s).1 (piecesOf (A ++ (a, z, false) :: r)) a (growX z s r F).1 s).1
      (giveX A a (growX z s r F).1 s (growX z s r F).2.1 (growX z s r F).2.2).1 (giveX A a (growX z s r F).1 s (growX z s r F).2.1 (growX z s r F).2.2).2 := by
  obtain ⟨q1, -, -⟩ := rep_reallocX h.rep h1 h2 h3
  obtain ⟨-, e2, -, -⟩ := rep_grownX s h.rep
  obtain ⟨hr, hl⟩ := hs_grow (s := s) h
  have hA := nf_left h.nf
  refine ⟨q1, ?_, ?_⟩
  · unfold giveX
    split
    · refine nf_freedX ?_ hr
      cases A with
      | nil => trivial
      | cons u A => exact nf_mid_taken (r := []) hA trivial
    · exact nf_mid_taken hA hr
  · unfold giveX
    split
    · rename_i hb
      have q2 := rep_part e2 rfl h1 h2 hb
      have q3 := rep_give q2 (.inl rfl)
      rw [show A ++ (a, s, false) :: (a + s, (growX z s r F).1 - s, true) :: (growX z s r F).2.1 = (A ++ [(a, s, false)]) ++ (a + s, (growX z s r F).1 - s, true) :: (growX z s r F).2.1 by simp] at q3
      exact lo_freedX q3 hl
    · exact hl
/-- Aligned, its second way: the reference puts the front back, and splits the rest. -/
def fromR (A : List Bl) (a z b s : Int) (r : List Bl) (F : Nat → List Int) : List Bl × (Nat → List Int) := giveR (A ++ [(a, b - a, true)]) b (a + z - b) s r (adF F (kl (b - a)) a)
theorem hs_from {n : Nat} {g : Mem} {L A r : List Bl} {F : Nat → List Int} {a z b s : Int} (h : Hs n g L F) (hL : L = A ++ (a, z, true) :: r) (h1 : 16 ≤ s) (h2 : s % 8 = 0) (h3 : 16 ≤ b - a) (h4 : (b - a) % 8 = 0) (h5 : s ≤ a + z - b) :
    Hs n (give n (putIn n (takeOut n g a z) a (b - a)) (piecesOf L) b (a + z - b) s).1 (fromR A a z b s r (rmF F (kl z) a)).1 (fromR A a z b s r (rmF F (kl z) a)).2 ∧
    (give n (putIn n (takeOut n g a z) a (b - a)) (piecesOf L) b (a + z - b) s).2 = piecesOf (fromR A a z b s r (rmF F (kl z) a)).1 ∧
    ∀ o, inQ (piecesOf L) o → (give n (putIn n (takeOut n g a z) a (b - a)) (piecesOf L) b (a + z - b) s).1 o.toNat = g o.toNat := by
  subst hL
  have hm : (a, z, true) ∈ A ++ (a, z, true) :: r := by simp
  have ma := h.rep.blk hm
  have hn := h.rep.nn
  simp only at ma
  have hh := nf_head h.nf
  have hR := (rep_outX h.rep hm (fun q => q)).iff (Y := fun y => y = a) fun y => ⟨fun q => q.elim (fun e => e.elim) id, .inr⟩
  have q := rep_fromX hR h1 h2 h3 h4 h5
  have e : fromX A a z b s r (rmF F (kl z) a) = fromR A a z b s r (rmF F (kl z) a) := by unfold fromX fromR; rw [give_ref hh]; rfl
  rw [e] at q
  have hA : piecesOf (A ++ [(a, b - a, true)]) = piecesOf A := by rw [pieces_app]; show piecesOf A ++ [] = _; simp
  refine ⟨⟨q.1, nf_give (nf_front h.nf) (nf_tail (nf_right h.nf)) hh, ?_⟩, ?_, fun o ho => ?_⟩
  · unfold fromR giveR
    have l1 := lo_ad (lo_rm h.lo (kl z) a) (k := kl (b - a)) (kl_lt h3 (by omega)) a
    split
    · exact lo_ad l1 (kl_lt (by omega) (by omega)) _
    · exact l1
  · unfold fromR
    rw [pieces_give, hA]
    exact q.2
  · have q1 := rep_part hR rfl h3 h4 (by omega)
    rw [show a + (b - a) = b by omega, show z - (b - a) = a + z - b by omega] at q1
    have hP1 : piecesOf (A ++ (a, b - a, true) :: (b, a + z - b, true) :: r) = piecesOf (A ++ (a, z, true) :: r) := by rw [pieces_app, pieces_app]; rfl
    have q2 := (rep_inX q1 (a := a) (z := b - a) (by simp) (.inl rfl)).iff (Y := fun y => y = b) fun y => ⟨fun q => q.1.elim (fun e => absurd e q.2) id, fun q => ⟨.inr q, by omega⟩⟩
    have hLL : A ++ (a, b - a, true) :: (b, a + z - b, true) :: r = (A ++ [(a, b - a, true)]) ++ (b, a + z - b, true) :: r := by simp
    have k1 := in_keep q1 (a := a) (z := b - a) (by simp) (.inl rfl) (o := o) (by rw [hP1]; exact ho)
    have k0 := out_keep h.rep hm (fun q => q) ho
    rw [hLL] at q2 hP1
    have k2 := give_keep q2 h1 h2 (o := o) (by rw [hP1]; exact ho)
    rw [hP1] at k2
    rw [k2, k1, k0]
end Go.Proofs.YtgefmnnkpffpcaaGreatDoor
