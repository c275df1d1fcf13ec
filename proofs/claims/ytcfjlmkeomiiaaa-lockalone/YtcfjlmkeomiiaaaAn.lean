/- LockAlone's walk. -/
import Derived.Test.YtcfjlmkeomiiaaaLw
import Derived.Test.YtcfjlmkeomiiaaaLb
import Derived.Test.YtcfjlmkeomiiaaaAl
import Derived.Test.YtcfjlmkeomiiaaaKn
import Derived.Test.YtcfjlmkeomiiaaaArgs
namespace Go.Proofs.Ytcfjlmkeomiiaaa
open Go.RowKit Go.Shelf Go.Lib Go.Sort Go.Maps
attribute [local go_sem] Oper.semAt_some

/-- Numbers by thread tell the priorities of those who wait. -/
def Fits (M : Lk) (F : Nat → Int) : Prop := ∀ x, x ∈ M.r ∨ x ∈ M.q → F x.1.toNat = x.2
def updF (F : Nat → Int) (t p : Int) : Nat → Int := fun k => if k = t.toNat then p else F k
theorem Fits.sub {M M' : Lk} {F : Nat → Int} (h : Fits M F) (h1 : ∀ x ∈ M'.r, x ∈ M.r) (h2 : ∀ x ∈ M'.q, x ∈ M.q) : Fits M' F := fun x hx => h x (hx.imp (h1 x) (h2 x))
theorem mem_lv {L : List Dl} {t : Int} {x : Dl} (h : x ∈ lvL L t) : x ∈ L := by
  unfold lvL at h
  split at h
  · exact (mem_del.1 h).1
  · exact h
theorem next_sub {M : Lk} {t : Int} {M' : Lk} (h : nextL M = some (t, M')) : (∀ x ∈ M'.r, x ∈ M.r) ∧ (∀ x ∈ M'.q, x ∈ M.q) := by
  unfold nextL at h
  split at h
  · simp only [Option.some.injEq, Prod.mk.injEq] at h
    obtain ⟨-, rfl⟩ := h
    exact ⟨fun x hx => hx, fun x hx => mem_lv hx⟩
  · split at h
    · simp only [Option.some.injEq, Prod.mk.injEq] at h
      obtain ⟨-, rfl⟩ := h
      exact ⟨fun x hx => mem_lv hx, fun x hx => hx⟩
    · cases h
theorem letF_sub : ∀ (n : Nat) (M : Lk), (∀ x ∈ (letF n M).2.r, x ∈ M.r) ∧ (∀ x ∈ (letF n M).2.q, x ∈ M.q)
  | 0, M => ⟨fun _ h => h, fun _ h => h⟩
  | n + 1, M => by
    unfold letF
    cases hn : nextL M with
    | none => exact ⟨fun _ h => h, fun _ h => h⟩
    | some x =>
      have h1 := next_sub (t := x.1) (M' := x.2) hn
      have h2 := letF_sub n x.2
      exact ⟨fun y hy => h1.1 y (h2.1 y hy), fun y hy => h1.2 y (h2.2 y hy)⟩
theorem Fits.let {M : Lk} {F : Nat → Int} (h : Fits M F) : Fits (letN M).2 F := h.sub (letF_sub _ M).1 (letF_sub _ M).2
theorem upd_off {F : Nat → Int} {L : List Dl} (hL : okL L) {t p : Int} (ht : 0 ≤ t) (hn : hasP L t = false) {x : Dl} (hx : x ∈ L) : updF F t p x.1.toNat = F x.1.toNat := by
  unfold updF
  rw [if_neg]
  intro e
  have h0 := (hL.rng x hx).1
  have : x.1 = t := by omega
  rw [mem_has.2 ⟨x, hx, this⟩] at hn
  cases hn
theorem Fits.rd {M : Lk} {F : Nat → Int} (h : Fits M F) (hM : Lmid M) (t p : Int) (hE : askE M t p false = 0) : Fits (rdM M t p false) (updF F t p) := by
  obtain ⟨ht, hp, hr, hq, -⟩ := ask_ok hE
  unfold rdM
  rw [if_pos hE]
  have base : ∀ x, x ∈ M.r ∨ x ∈ M.q → updF F t p x.1.toNat = x.2 := fun x hx => by
    rcases hx with hx | hx
    · rw [upd_off hM.rk ht.1 hr hx]; exact h x (.inl hx)
    · rw [upd_off hM.qk ht.1 hq hx]; exact h x (.inr hx)
  split
  · exact base
  · rw [if_neg (by simp)]
    intro x hx
    rw [put_new ht hp hr] at hx
    rcases hx with hx | hx
    · rcases List.mem_append.1 hx with hx | hx
      · exact base x (.inl hx)
      · rw [List.mem_singleton.1 hx]; simp [updF]
    · exact base x (.inr hx)
theorem Fits.wr {M : Lk} {F : Nat → Int} (h : Fits M F) (hM : Lmid M) (t p : Int) (hE : askE M t p true = 0) : Fits (wrM M t p false) (updF F t p) := by
  obtain ⟨ht, hp, hr, hq, -⟩ := ask_ok hE
  unfold wrM
  rw [if_pos hE]
  have base : ∀ x, x ∈ M.r ∨ x ∈ M.q → updF F t p x.1.toNat = x.2 := fun x hx => by
    rcases hx with hx | hx
    · rw [upd_off hM.rk ht.1 hr hx]; exact h x (.inl hx)
    · rw [upd_off hM.qk ht.1 hq hx]; exact h x (.inr hx)
  split
  · rw [if_neg (by simp)]
    intro x hx
    rw [put_new ht hp hq] at hx
    rcases hx with hx | hx
    · exact base x (.inl hx)
    · rcases List.mem_append.1 hx with hx | hx
      · exact base x (.inr hx)
      · rw [List.mem_singleton.1 hx]; simp [updF]
  · exact base
theorem rd_same {M : Lk} {t p : Int} {b : Bool} (hE : askE M t p false ≠ 0) : rdM M t p b = M := by unfold rdM; rw [if_neg hE]
theorem wr_same {M : Lk} {t p : Int} {b : Bool} (hE : askE M t p true ≠ 0) : wrM M t p b = M := by unfold wrM; rw [if_neg hE]
theorem rd_try {M : Lk} {t p : Int} : (rdM M t p true).r = M.r ∧ (rdM M t p true).q = M.q := by
  unfold rdM
  split
  · split
    · exact ⟨rfl, rfl⟩
    · exact ⟨rfl, rfl⟩
  · exact ⟨rfl, rfl⟩
theorem wr_try {M : Lk} {t p : Int} : (wrM M t p true).r = M.r ∧ (wrM M t p true).q = M.q := by
  unfold wrM
  split
  · split
    · exact ⟨rfl, rfl⟩
    · exact ⟨rfl, rfl⟩
  · exact ⟨rfl, rfl⟩
theorem Fits.un {M : Lk} {F : Nat → Int} (h : Fits M F) (t : Int) : Fits (unM M t) F := by
  unfold unM
  split
  · refine Fits.let (h.sub (fun x hx => ?_) (fun x hx => ?_))
    · unfold unK at hx; split at hx <;> exact hx
    · unfold unK at hx; split at hx <;> exact hx
  · exact h
theorem Fits.le {M : Lk} {F : Nat → Int} (h : Fits M F) (t : Int) : Fits (leM M t) F := by
  unfold leM
  split
  · exact Fits.let (h.sub (fun x hx => mem_lv hx) (fun x hx => mem_lv hx))
  · exact h
theorem chg_fits {F : Nat → Int} {L : List Dl} (hL : okL L) (h : ∀ x ∈ L, F x.1.toNat = x.2) {t p : Int} (hm : (mayT t && mayP p) = true) : ∀ x ∈ chgL L t p, updF F t p x.1.toNat = x.2 := by
  have ht : 0 ≤ t ∧ t < 16 := by simp [mayT, mayP] at hm; exact hm.1
  unfold chgL
  rw [if_pos hm]
  split
  · intro x hx
    unfold chL at hx
    obtain ⟨y, hy, rfl⟩ := List.mem_map.1 hx
    split
    · simp [updF]
    · rename_i hne
      have h0 := (hL.rng y hy).1
      unfold updF
      rw [if_neg (by omega)]
      exact h y hy
  · rename_i hn
    intro x hx
    rw [upd_off hL ht.1 (by simpa using hn) hx]
    exact h x hx
theorem Fits.ch {M : Lk} {F : Nat → Int} (h : Fits M F) (hM : Lmid M) (t p : Int) (hE : chgEL M t p = 0) : Fits (chM M t p) (updF F t p) ∧ (0 ≤ t ∧ t < 16) := by
  have hm : (mayT t && mayP p) = true := by
    cases hb : (mayT t && mayP p)
    · unfold chgEL at hE
      rw [(chg_arg (L := M.r) hb).1, (chg_arg (L := M.q) hb).1] at hE
      simp at hE
    · rfl
  refine ⟨?_, by simp [mayT, mayP] at hm; exact hm.1⟩
  unfold chM
  rw [if_pos hE]
  refine Fits.let (fun x hx => ?_)
  rcases hx with hx | hx
  · exact chg_fits hM.rk (fun y hy => h y (.inl hy)) hm x hx
  · exact chg_fits hM.qk (fun y hy => h y (.inr hy)) hm x hx
theorem ch_no {M : Lk} {t p : Int} (hE : chgEL M t p ≠ 0) : chM M t p = M := by unfold chM; rw [if_neg hE]
/-- A writer that Unlock let in was the first one. -/
theorem un_first {M : Lk} (hM : Lok M) (t : Int) (h0 : 0 ≤ (unM M t).w) (hin : 0 < (unO M t).length) : (unM M t).w = fstT M.q := by
  unfold unM at h0 ⊢
  unfold unO at hin
  by_cases hE : unE M t = 0
  · rw [if_pos hE] at h0 hin ⊢
    have hm := hM.mid.un hE
    obtain ⟨h1, h2⟩ := let_held _ (Nat.le_refl _) hm
    have hq : (unK M t).q = M.q := by unfold unK; split <;> rfl
    by_cases hw : (unK M t).w < 0
    · rw [h2 hw h0, hq]
    · rw [h1 (by omega)] at hin
      simp at hin
  · rw [if_neg hE] at hin
    simp at hin
theorem Pr.set {w : World} {pb : Nat} {F : Nat → Int} (h : Pr w pb F) {t : Int} (ht : 0 ≤ t ∧ t < 16) (p : Int) : Pr (w.setCell ⟨pb, t.toNat, none⟩ (.int .i64 p)) pb (updF F t p) := by
  refine vcl_heap h (by omega) (fun i hi => ?_)
  unfold updF
  by_cases e : i = t.toNat
  · simp [e]
  · simp [e]
theorem Pr.free {w : World} {pb : Nat} {F : Nat → Int} (h : Pr w pb F) (i : Nat) : w.frozen? ⟨pb, i, none⟩ = false := by
  have h' : w.heap[pb]? = some (.cells (vcl (fun i => .int .i64 (F i)) 16 0).toArray 37 (0, 0)) := h
  simp [World.frozen?, h']
theorem vcl_nil : (vcl (fun _ => Value.int .i64 0) 16 0).toArray = #[.int .i64 0, .int .i64 0, .int .i64 0, .int .i64 0, .int .i64 0, .int .i64 0, .int .i64 0, .int .i64 0, .int .i64 0, .int .i64 0, .int .i64 0, .int .i64 0, .int .i64 0, .int .i64 0, .int .i64 0, .int .i64 0] := rfl
/-- The lock, and the numbers, made behind w0. -/
def An (w0 W : World) (lb pb : Nat) : Prop := ∃ R M F, Lc W lb R M ∧ Lok M ∧ (∀ k ∈ R, w0.heap.size ≤ k) ∧ pb ∉ R ∧ w0.heap.size ≤ pb ∧ Pr W pb F ∧ Fits M F ∧ Kp w0 W []
theorem An.kp {w0 W : World} {lb pb : Nat} (h : An w0 W lb pb) : Kp w0 W [] := by
  obtain ⟨R, M, F, -, -, -, -, -, -, -, h⟩ := h
  exact h
/-- Behind a call: the lock has gone on; numbers may have been told apart from it. -/
structure Bh (w0 W : World) (lb pb : Nat) (R : List Nat) (M : Lk) (F : Nat → Int) : Prop where
  lc : Lc W lb R M
  ok : Lok M
  far : ∀ k ∈ R, w0.heap.size ≤ k
  np : pb ∉ R
  fp : w0.heap.size ≤ pb
  pr : Pr W pb F
  kp : Kp w0 W []
theorem Bh.same {w0 W W' : World} {lb pb : Nat} {R : List Nat} {M : Lk} {F : Nat → Int} (h : Bh w0 W lb pb R M F) (hk : Kp W W' []) : Bh w0 W' lb pb R M F := ⟨h.lc.same hk, h.ok, h.far, h.np, h.fp, h.pr.keep hk (by simp), h.kp.trans hk⟩
theorem Bh.to {w0 W W' : World} {lb pb : Nat} {R : List Nat} {M M' : Lk} {F : Nat → Int} (h : Bh w0 W lb pb R M F) (hT : To W W' lb R M') (hM : Lok M') : ∃ R', Bh w0 W' lb pb R' M' F ∧ Nw W R R' ∧ Kp W W' R := by
  obtain ⟨R', s, nw, k⟩ := hT
  refine ⟨R', ⟨s, hM, fun x hx => ?_, fun hm => ?_, h.fp, h.pr.keep k h.np, h.kp.past k (fun x hx hl => by have := h.far x hx; omega)⟩, nw, k⟩
  · rcases nw x hx with q | q
    · exact h.far x q
    · have := h.kp.size; omega
  · rcases nw pb hm with q | q
    · exact h.np q
    · have := lt_of_block h.pr; omega
theorem Bh.set {w0 W : World} {lb pb : Nat} {R : List Nat} {M : Lk} {F : Nat → Int} (h : Bh w0 W lb pb R M F) {t : Int} (ht : 0 ≤ t ∧ t < 16) (p : Int) : Bh w0 (W.setCell ⟨pb, t.toNat, none⟩ (.int .i64 p)) lb pb R M (updF F t p) ∧ Kp W (W.setCell ⟨pb, t.toNat, none⟩ (.int .i64 p)) [pb] := by
  have hk := Kp.setCell W ⟨pb, t.toNat, none⟩ (.int .i64 p)
  exact ⟨⟨h.lc.keep hk (fun x hx e => by simp at e; subst e; exact h.np hx), h.ok, h.far, h.np, h.fp, h.pr.set ht p, h.kp.past hk (fun x hx hl => by simp at hx; have := h.fp; omega)⟩, hk⟩
theorem Bh.an {w0 W : World} {lb pb : Nat} {R : List Nat} {M : Lk} {F : Nat → Int} (h : Bh w0 W lb pb R M F) (hF : Fits M F) : An w0 W lb pb := ⟨R, M, F, h.lc, h.ok, h.far, h.np, h.fp, h.pr, hF, h.kp⟩

end Go.Proofs.Ytcfjlmkeomiiaaa
