/- A lock, plainly: each call keeps what holds between calls; steps; states written out. No Go is walked here. -/
import Derived.Test.YtcfjlmkeomiiaaaLk
namespace Go.Proofs.Ytcfjlmkeomiiaaa

theorem fst_great {L : List Dl} (h : okL L) {x : Dl} (hx : x ∈ L) : fstB L = true ∧ x.2 ≤ fstP L := by
  have hm := (ord_mem h).2 hx
  have ha := (ord_st h).1
  unfold fstB fstP
  cases hz : ordL L with
  | nil => rw [hz] at hm; simp at hm
  | cons y r =>
    rw [hz] at hm ha
    refine ⟨rfl, ?_⟩
    simp only [List.headD_cons]
    rcases List.mem_cons.1 hm with rfl | hm
    · exact Int.le_refl _
    · have := (List.pairwise_cons.1 ha).1 x hm
      omega
/-- What holds between calls, said of all who wait. -/
structure Lset (M : Lk) : Prop where
  free : heldL M = false → M.r = [] ∧ M.q = []
  low : M.w < 0 → ∀ x ∈ M.r, ∃ y ∈ M.q, x.2 ≤ y.2
theorem lset_of {M : Lk} (h : Lok M) : Lset M := by
  have hm := h.mid
  have hn := h.no
  unfold nextL at hn
  have hW : byW M = false := by
    cases hb : byW M
    · rfl
    · rw [hb] at hn; simp at hn
  rw [hW] at hn
  have hR : byR M = false := by
    cases hb : byR M
    · rfl
    · rw [hb] at hn; simp at hn
  clear hn
  have key : M.w < 0 → fstB M.r = true → fstB M.q = true ∧ fstP M.r ≤ fstP M.q := fun hw hb => by
    have hz := (hm.rz _ (fst_has hm.rk hb)).1
    unfold byR mayR at hR
    rw [hb, decide_eq_true hw, hz] at hR
    simp at hR
    exact ⟨hR.1, by omega⟩
  have low : M.w < 0 → ∀ x ∈ M.r, ∃ y ∈ M.q, x.2 ≤ y.2 := fun hw x hx => by
    obtain ⟨h1, h2⟩ := fst_great hm.rk hx
    obtain ⟨h3, h4⟩ := key hw h1
    exact ⟨_, fst_mem hm.qk h3, Int.le_trans h2 h4⟩
  refine ⟨fun hf => ?_, low⟩
  obtain ⟨hw, -⟩ := held_no hf
  have hq : fstB M.q = false := by
    cases hb : fstB M.q
    · rfl
    · exfalso
      unfold byW at hW
      rw [hf, hb] at hW
      simp at hW
      obtain ⟨h1, h2⟩ := hW
      have := (key hw h1).2
      omega
  have hq0 := fst_none hm.qk hq
  refine ⟨?_, hq0⟩
  cases hr : M.r with
  | nil => rfl
  | cons x r =>
    obtain ⟨y, hy, -⟩ := low hw x (by rw [hr]; simp)
    rw [hq0] at hy
    simp at hy
theorem lok_of {M : Lk} (hm : Lmid M) (h : Lset M) : Lok M := by
  refine ⟨hm, ?_⟩
  have hW : byW M = false := by
    cases hb : byW M
    · rfl
    · obtain ⟨h1, h2, -⟩ := byW_q hb
      have := fst_mem hm.qk h2
      rw [(h.free h1).2] at this
      simp at this
  have hR : byR M = false := by
    cases hb : byR M
    · rfl
    · obtain ⟨h1, h2, h3⟩ := byR_r hb
      have hz := (hm.rz _ (fst_has hm.rk h2)).1
      obtain ⟨y, hy, hle⟩ := h.low h1 _ (fst_mem hm.rk h2)
      obtain ⟨h4, h5⟩ := fst_great hm.qk hy
      unfold mayR at h3
      rw [hz, h4] at h3
      simp at h3
      simp only at hle
      omega
  unfold nextL
  rw [hW, hR]
  rfl
theorem ask_ok {M : Lk} {t p : Int} {wr : Bool} (h : askE M t p wr = 0) : (0 ≤ t ∧ t < 16) ∧ (1 ≤ p ∧ p ≤ 31) ∧ hasP M.r t = false ∧ hasP M.q t = false ∧ M.w ≠ t ∧ (wr = true → ¬ 0 < M.c t.toNat) ∧ (wr = false → M.c t.toNat < 32767) := by
  unfold askE at h
  split at h
  · rename_i h1
    simp [mayT, mayP] at h1
    split at h
    · cases h
    · rename_i h2
      split at h
      · cases h
      · rename_i h3
        simp at h2 h3
        exact ⟨h1.1, h1.2, h2.1.1.1, h2.1.1.2, h2.1.2, fun e => by have := h2.2 e; omega, fun e => by have := h3 e; omega⟩
  · cases h
theorem held_upd {M : Lk} {t : Int} {v : Int} (ht : 0 ≤ t ∧ t < 16) (hv : 0 < v) : heldL { M with c := updC M.c t v } = true := by
  unfold heldL
  rw [Bool.or_eq_true, anyC_iff]
  exact .inr ⟨t.toNat, by omega, by show 0 < updC M.c t v t.toNat; rw [updC_at]; exact hv⟩
theorem put_new {L : List Dl} {t p : Int} (ht : 0 ≤ t ∧ t < 16) (hp : 1 ≤ p ∧ p ≤ 31) (h : hasP L t = false) : putL L t p = L ++ [(t, p)] := by
  unfold putL
  rw [if_pos (by simp [mayT, mayP]; omega), h]
  rfl
theorem put_ok {L : List Dl} {t p : Int} (ht : 0 ≤ t ∧ t < 16) (hp : 1 ≤ p ∧ p ≤ 31) (h : hasP L t = false) : putE L t p = 0 := by
  unfold putE
  rw [if_pos (by simp [mayT, mayP]; omega), h]
  rfl
theorem has_put {L : List Dl} {t p s : Int} : hasP (L ++ [(t, p)]) s = (hasP L s || (t == s)) := by simp [hasP]
theorem Lmid.hold {M : Lk} (h : Lmid M) {t p : Int} (hE : askE M t p false = 0) (hw : M.w < 0) : Lmid { M with c := updC M.c t (M.c t.toNat + 1) } := by
  obtain ⟨ht, hp, hr, hq, hne, -, hc⟩ := ask_ok hE
  have off : ∀ s : Int, 0 ≤ s → s ≠ t → updC M.c t (M.c t.toNat + 1) s.toNat = M.c s.toNat := fun s h0 hn => updC_off _ _ _ (by omega)
  refine ⟨h.lo, h.hi, fun k hk => ?_, h.rk, h.qk, fun h0 => ?_, h.ap, fun s hs => ?_, fun s hs => ?_⟩
  · show 0 ≤ updC M.c t (M.c t.toNat + 1) k ∧ updC M.c t (M.c t.toNat + 1) k ≤ 32767
    by_cases e : k = t.toNat
    · subst e
      rw [updC_at]
      have := h.cs t.toNat (by omega)
      have := hc rfl
      omega
    · rw [updC_off _ _ _ e]; exact h.cs k hk
  · have h0' : 0 ≤ M.w := h0
    omega
  · obtain ⟨x, hx, e⟩ := mem_has.1 hs
    have h0 := (h.rk.rng x hx).1
    have hst : s ≠ t := by rintro rfl; rw [show hasP M.r s = true from hs] at hr; cases hr
    refine ⟨?_, (h.rz s hs).2⟩
    show updC M.c t (M.c t.toNat + 1) s.toNat = 0
    rw [off s (by omega) hst]
    exact (h.rz s hs).1
  · obtain ⟨x, hx, e⟩ := mem_has.1 hs
    have h0 := (h.qk.rng x hx).1
    have hst : s ≠ t := by rintro rfl; rw [show hasP M.q s = true from hs] at hq; cases hq
    refine ⟨?_, (h.qz s hs).2⟩
    show updC M.c t (M.c t.toNat + 1) s.toNat = 0
    rw [off s (by omega) hst]
    exact (h.qz s hs).1
theorem mayR_neg {M : Lk} (t p : Int) (h : mayR M t p = true) : M.w < 0 := by
  unfold mayR at h
  simp at h
  exact h.1
theorem Lok.held_wait {M : Lk} (h : Lok M) {t p : Int} (hm : mayR M t p = false) : heldL M = true ∧ (M.w < 0 → ¬ 0 < M.c t.toNat ∧ ∃ y ∈ M.q, p ≤ y.2) := by
  have key : M.w < 0 → ¬ 0 < M.c t.toNat ∧ ∃ y ∈ M.q, p ≤ y.2 := fun hw => by
    unfold mayR at hm
    rw [decide_eq_true hw] at hm
    simp at hm
    exact ⟨by omega, _, fst_mem h.mid.qk hm.1.2, hm.2⟩
  refine ⟨?_, key⟩
  cases hh : heldL M
  · obtain ⟨-, y, hy, -⟩ := key (held_no hh).1
    rw [((lset_of h).free hh).2] at hy
    simp at hy
  · rfl
theorem Lok.rd {M : Lk} (h : Lok M) (t p : Int) (b : Bool) : Lok (rdM M t p b) := by
  unfold rdM
  split
  · rename_i hE
    obtain ⟨ht, hp, hr, hq, hne, -, hc⟩ := ask_ok hE
    split
    · rename_i hm
      have hw := mayR_neg _ _ hm
      have hs := lset_of h
      refine lok_of (h.mid.hold hE hw) ⟨fun hf => ?_, hs.low⟩
      rw [held_upd ht (by have := (h.mid.cs t.toNat (by omega)).1; omega)] at hf
      cases hf
    · rename_i hm
      split
      · exact h
      · have hm' : mayR M t p = false := by simpa using hm
        obtain ⟨h1, h2⟩ := h.held_wait hm'
        have hs := lset_of h
        have hw : (M.w < 0 → ¬ 0 < M.c t.toNat) := fun h => (h2 h).1
        have hz : M.c t.toNat = 0 := by
          have := (h.mid.cs t.toNat (by omega)).1
          by_cases h0 : 0 ≤ M.w
          · exact h.mid.al h0 _ (by omega)
          · have := hw (by omega); omega
        rw [put_new ht hp hr]
        refine lok_of ⟨h.mid.lo, h.mid.hi, h.mid.cs, ?_, h.mid.qk, h.mid.al, fun s hs => ?_, fun s hs => ?_, h.mid.qz⟩ ⟨fun hf => ?_, fun hlt x hx => ?_⟩
        · have := h.mid.rk.put t p; rw [put_new ht hp hr] at this; exact this
        · have hs' : hasP (M.r ++ [(t, p)]) s = true := hs
          rw [has_put, Bool.or_eq_true] at hs'
          rcases hs' with hs' | hs'
          · exact h.mid.ap s hs'
          · have : t = s := by simpa using hs'
            subst this; exact hq
        · have hs' : hasP (M.r ++ [(t, p)]) s = true := hs
          rw [has_put, Bool.or_eq_true] at hs'
          rcases hs' with hs' | hs'
          · exact h.mid.rz s hs'
          · have : t = s := by simpa using hs'
            subst this; exact ⟨hz, hne⟩
        · have hf' : heldL M = false := hf
          rw [h1] at hf'; cases hf'
        · rcases List.mem_append.1 hx with hx | hx
          · exact hs.low hlt x hx
          · rw [List.mem_singleton.1 hx]
            exact (h2 hlt).2
  · exact h
theorem Lok.wr {M : Lk} (h : Lok M) (t p : Int) (b : Bool) : Lok (wrM M t p b) := by
  unfold wrM
  split
  · rename_i hE
    obtain ⟨ht, hp, hr, hq, hne, hc, -⟩ := ask_ok hE
    have hs := lset_of h
    split
    · rename_i hh
      split
      · exact h
      · have hz : M.c t.toNat = 0 := by
          have := (h.mid.cs t.toNat (by omega)).1
          have := hc rfl
          omega
        rw [put_new ht hp hq]
        refine lok_of ⟨h.mid.lo, h.mid.hi, h.mid.cs, h.mid.rk, ?_, h.mid.al, fun s hs => ?_, h.mid.rz, fun s hs => ?_⟩ ⟨fun hf => ?_, fun hlt x hx => ?_⟩
        · have := h.mid.qk.put t p; rw [put_new ht hp hq] at this; exact this
        · show hasP (M.q ++ [(t, p)]) s = false
          rw [has_put, h.mid.ap s hs]
          simp
          rintro rfl
          rw [show hasP M.r t = true from hs] at hr; cases hr
        · have hs' : hasP (M.q ++ [(t, p)]) s = true := hs
          rw [has_put, Bool.or_eq_true] at hs'
          rcases hs' with hs' | hs'
          · exact h.mid.qz s hs'
          · have : t = s := by simpa using hs'
            subst this; exact ⟨hz, hne⟩
        · have hf' : heldL M = false := hf
          rw [hh] at hf'; cases hf'
        · obtain ⟨y, hy, hle⟩ := hs.low hlt x hx
          exact ⟨y, List.mem_append.2 (.inl hy), hle⟩
    · rename_i hh
      have hh' : heldL M = false := by simpa using hh
      obtain ⟨hw, hc0⟩ := held_no hh'
      refine lok_of ⟨by show -1 ≤ t; omega, by show t < 16; omega, h.mid.cs, h.mid.rk, h.mid.qk, fun _ k hk => ?_, h.mid.ap, fun s hs => ⟨(h.mid.rz s hs).1, ?_⟩, fun s hs => ⟨(h.mid.qz s hs).1, ?_⟩⟩ ⟨fun hf => ?_, fun hlt => ?_⟩
      · have := hc0 k hk; have := (h.mid.cs k hk).1
        show M.c k = 0; omega
      · show t ≠ s
        rintro rfl; rw [show hasP M.r t = true from hs] at hr; cases hr
      · show t ≠ s
        rintro rfl; rw [show hasP M.q t = true from hs] at hq; cases hq
      · exfalso
        have : heldL { M with w := t } = true := by unfold heldL; simp; omega
        rw [this] at hf; cases hf
      · have hlt' : t < 0 := hlt
        omega
  · exact h
theorem Lmid.un {M : Lk} (h : Lmid M) {t : Int} (hE : unE M t = 0) : Lmid (unK M t) := by
  unfold unE at hE
  split at hE
  · rename_i ht
    simp [mayT] at ht
    unfold unK
    split
    · rename_i hw
      refine ⟨by show (-1 : Int) ≤ -1; omega, by show (-1 : Int) < 16; omega, h.cs, h.rk, h.qk, fun h0 => absurd (show (0 : Int) ≤ -1 from h0) (by decide), h.ap, fun s hs => ⟨(h.rz s hs).1, ?_⟩, fun s hs => ⟨(h.qz s hs).1, ?_⟩⟩
      · obtain ⟨x, hx, e⟩ := mem_has.1 hs
        have := (h.rk.rng x hx).1
        show (-1 : Int) ≠ s; omega
      · obtain ⟨x, hx, e⟩ := mem_has.1 hs
        have := (h.qk.rng x hx).1
        show (-1 : Int) ≠ s; omega
    · rename_i hw
      rw [if_neg hw] at hE
      split at hE
      · rename_i hc
        have ho : ∀ (L : List Dl), okL L → (∀ s, hasP L s = true → M.c s.toNat = 0 ∧ M.w ≠ s) → ∀ s, hasP L s = true → updC M.c t (M.c t.toNat - 1) s.toNat = 0 := fun L hL hz s hs => by
          obtain ⟨x, hx, e⟩ := mem_has.1 hs
          have h0 := (hL.rng x hx).1
          have := (hz s hs).1
          rw [updC_off _ _ _ (fun e => by rw [e] at this; omega)]
          exact this
        refine ⟨h.lo, h.hi, fun k hk => ?_, h.rk, h.qk, fun h0 k hk => ?_, h.ap, fun s hs => ⟨ho M.r h.rk h.rz s hs, (h.rz s hs).2⟩, fun s hs => ⟨ho M.q h.qk h.qz s hs, (h.qz s hs).2⟩⟩
        · show 0 ≤ updC M.c t (M.c t.toNat - 1) k ∧ updC M.c t (M.c t.toNat - 1) k ≤ 32767
          have := h.cs k hk
          by_cases e : k = t.toNat
          · subst e
            rw [updC_at]; omega
          · rw [updC_off _ _ _ e]; exact this
        · have := h.al h0 t.toNat (by omega)
          omega
      · cases hE
  · cases hE
theorem Lmid.sub {M : Lk} (h : Lmid M) {r q : List Dl} (hr : okL r) (hq : okL q) (h1 : ∀ s, hasP r s = true → hasP M.r s = true) (h2 : ∀ s, hasP q s = true → hasP M.q s = true) : Lmid { M with r := r, q := q } := by
  refine ⟨h.lo, h.hi, h.cs, hr, hq, h.al, fun s hs => ?_, fun s hs => h.rz s (h1 s hs), fun s hs => h.qz s (h2 s hs)⟩
  have := h.ap s (h1 s hs)
  cases hb : hasP q s
  · rfl
  · rw [h2 s hb] at this; cases this
theorem has_lv {L : List Dl} {t s : Int} (h : hasP (lvL L t) s = true) : hasP L s = true := by
  unfold lvL at h
  split at h
  · rw [has_del, Bool.and_eq_true] at h; exact h.1
  · exact h
theorem has_chg {L : List Dl} {t p s : Int} (h : hasP (chgL L t p) s = true) : hasP L s = true := by
  unfold chgL at h
  split at h
  · split at h
    · rw [mem_map_has, ch_keys] at h; exact mem_map_has.2 h
    · exact h
  · exact h
theorem Lmid.le {M : Lk} (h : Lmid M) (t : Int) : Lmid (leK M t) := h.sub (h.rk.lv t) (h.qk.lv t) (fun _ => has_lv) (fun _ => has_lv)
theorem Lmid.ch {M : Lk} (h : Lmid M) (t p : Int) : Lmid (chK M t p) := h.sub (h.rk.chg t p) (h.qk.chg t p) (fun _ => has_chg) (fun _ => has_chg)
theorem Lok.un {M : Lk} (h : Lok M) (t : Int) : Lok (unM M t) := by
  unfold unM
  split
  · rename_i hE
    exact (h.mid.un hE).let
  · exact h
theorem Lok.le {M : Lk} (h : Lok M) (t : Int) : Lok (leM M t) := by
  unfold leM
  split
  · exact (h.mid.le t).let
  · exact h
theorem Lok.ch {M : Lk} (h : Lok M) (t p : Int) : Lok (chM M t p) := by
  unfold chM
  split
  · exact (h.mid.ch t p).let
  · exact h
theorem lok_new : Lok newL := by
  refine lok_of ⟨by decide, by decide, fun _ _ => ⟨by show (0 : Int) ≤ 0; omega, by show (0 : Int) ≤ 32767; omega⟩, okL.nil, okL.nil, fun _ _ _ => rfl, fun t h => by simp [newL, hasP] at h, fun t h => by simp [newL, hasP] at h, fun t h => by simp [newL, hasP] at h⟩ ⟨fun _ => ⟨rfl, rfl⟩, fun _ x hx => ?_⟩
  simp [newL] at hx
/-- A step. -/
noncomputable def stM (M : Lk) (k t p : Int) : Lk := if k = 1 then rdM M t p false else if k = 2 then wrM M t p false else if k = 3 then rdM M t p true else if k = 4 then wrM M t p true else if k = 5 then unM M t else if k = 6 then leM M t else if k = 7 then chM M t p else M
theorem Lok.step {M : Lk} (h : Lok M) (k t p : Int) : Lok (stM M k t p) := by
  unfold stM
  split
  · exact h.rd t p _
  split
  · exact h.wr t p _
  split
  · exact h.rd t p _
  split
  · exact h.wr t p _
  split
  · exact h.un t
  split
  · exact h.le t
  split
  · exact h.ch t p
  · exact h
/-- Both are the same. -/
structure Le (M M' : Lk) : Prop where
  w : M.w = M'.w
  c : ∀ t, t < 16 → M.c t = M'.c t
  r : M.r = M'.r
  q : M.q = M'.q
/-- Who holds it to write behind letting in. -/
theorem let_held : ∀ (n : Nat) {M : Lk}, sizeL M ≤ n → Lmid M → (0 ≤ M.w → letN M = ([], M)) ∧ (M.w < 0 → 0 ≤ (letN M).2.w → (letN M).2.w = fstT M.q) := by
  intro n
  induction n with
  | zero =>
    intro M hs h
    have hz := next_zero h (by omega)
    rw [let_none hz]
    exact ⟨fun _ => rfl, fun h1 h2 => absurd h1 (by have h2' : 0 ≤ M.w := h2; omega)⟩
  | succ n ih =>
    intro M hs h
    cases hn : nextL M with
    | none =>
      rw [let_none hn]
      exact ⟨fun _ => rfl, fun h1 h2 => absurd h1 (by have h2' : 0 ≤ M.w := h2; omega)⟩
    | some x =>
      obtain ⟨h1, h2, h3⟩ := next_mid h (t := x.1) (M' := x.2) hn
      have hi := ih (M := x.2) (by omega) h1
      rw [let_some h (t := x.1) (M' := x.2) hn]
      rcases h3 with ⟨hb, e1, e2⟩ | ⟨-, hb, e1, e2⟩
      · obtain ⟨hf, hq, -⟩ := byW_q hb
        have hw := (held_no hf).1
        have hr := fst_rng h.qk hq
        refine ⟨fun h0 => by omega, fun _ _ => ?_⟩
        have hw2 : x.2.w = fstT M.q := by rw [e2]; rfl
        rw [hi.1 (by rw [hw2]; omega)]
        exact hw2
      · obtain ⟨hw, -, -⟩ := byR_r hb
        have hw2 : x.2.w = M.w := by rw [e2]; rfl
        have hq2 : x.2.q = M.q := by rw [e2]; rfl
        refine ⟨fun h0 => by omega, fun h0 h5 => ?_⟩
        have := hi.2 (by rw [hw2]; exact h0) h5
        rw [hq2] at this
        exact this
end Go.Proofs.Ytcfjlmkeomiiaaa
