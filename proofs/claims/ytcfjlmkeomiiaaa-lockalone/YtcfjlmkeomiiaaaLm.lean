/- The program's lock in memory; looking. -/
import Derived.Test.YtcfjlmkeomiiaaaLp
import Derived.BigQuiet
namespace Go.Proofs.Ytcfjlmkeomiiaaa
open Go.RowKit Go.Shelf Go.Lib Go.Sort Go.Maps
attribute [local go_sem] Oper.semAt_some

/-- How often a thread holds it to read. -/
def cntC (c : Nat → Int) (t : Int) : Int := if 0 ≤ t ∧ t < 16 then c t.toNat else 0
/-- The map says the counts; who holds it no more is not in it. -/
structure Tie (P : Pcs) (c : Nat → Int) : Prop where
  get : ∀ t, getP P t = cntC c t
  rng : ∀ x ∈ P, (0 ≤ x.1 ∧ x.1 < 16) ∧ 0 < x.2
theorem rises_nodup {P : Pcs} (h : Rises P) : (P.map (·.1)).Nodup := by
  refine List.pairwise_map.2 (h.imp fun {p q} hpq => ?_)
  omega
theorem Tie.has {P : Pcs} {c : Nat → Int} (h : Tie P c) (hr : Rises P) {t : Int} : hasP P t = true ↔ 0 < cntC c t := by
  constructor
  · intro hh
    obtain ⟨x, hx, rfl⟩ := mem_has.1 hh
    rw [← h.get, get_of_mem (rises_nodup hr) hx]
    exact (h.rng x hx).2
  · intro hc
    cases hb : hasP P t
    · rw [← h.get, get_none hb] at hc
      omega
    · rfl
theorem Tie.any {P : Pcs} {c : Nat → Int} (h : Tie P c) (hr : Rises P) : decide (0 < (P.length : Int)) = anyC c 16 := by
  rw [Bool.eq_iff_iff, decide_eq_true_iff, anyC_iff]
  constructor
  · intro hl
    cases P with
    | nil => simp at hl
    | cons x r =>
      have h1 := h.rng x (by simp)
      have h2 : 0 < cntC c x.1 := (h.has hr).1 (mem_has.2 ⟨x, by simp, rfl⟩)
      unfold cntC at h2
      rw [if_pos h1.1] at h2
      exact ⟨x.1.toNat, by omega, h2⟩
  · rintro ⟨t, ht, hc⟩
    have : hasP P (t : Int) = true := (h.has hr).2 (by unfold cntC; rw [if_pos (by omega)]; simpa using hc)
    obtain ⟨x, hx, -⟩ := mem_has.1 this
    have := List.length_pos_of_mem hx
    omega
theorem Tie.new : Tie [] newL.c := ⟨fun t => by simp [getP, cntC, newL], by simp⟩
theorem ins_nodup {P : Pcs} (hr : Rises P) (k v : Int) : ((putP P k v).map (·.1)).Nodup := rises_nodup (rises_put hr k v)
theorem get_put {P : Pcs} (hr : Rises P) (k v t : Int) : getP (putP P k v) t = if t = k then v else getP P t := by
  have hn := ins_nodup hr k v
  by_cases e : t = k
  · subst e
    rw [if_pos rfl]
    exact get_of_mem hn (x := (t, v)) (mem_ins.2 (.inl rfl))
  · rw [if_neg e]
    cases hb : hasP P t
    · rw [get_none hb, get_none]
      cases hc : hasP (putP P k v) t
      · rfl
      · obtain ⟨x, hx, rfl⟩ := mem_has.1 hc
        rcases mem_ins.1 hx with h | h
        · exact absurd (congrArg (·.1) h) e
        · rw [mem_has.2 ⟨x, (mem_del.1 h).1, rfl⟩] at hb
          cases hb
    · obtain ⟨x, hx, rfl⟩ := mem_has.1 hb
      rw [get_of_mem (rises_nodup hr) hx]
      exact get_of_mem hn (mem_ins.2 (.inr (mem_del.2 ⟨hx, e⟩)))
theorem get_del {P : Pcs} (hr : Rises P) (k t : Int) : getP (delP P k) t = if t = k then 0 else getP P t := by
  by_cases e : t = k
  · subst e
    rw [if_pos rfl, get_none]
    rw [has_del]
    simp
  · rw [if_neg e]
    cases hb : hasP P t
    · rw [get_none hb, get_none]
      rw [has_del, hb]
      rfl
    · obtain ⟨x, hx, rfl⟩ := mem_has.1 hb
      rw [get_of_mem (rises_nodup hr) hx]
      exact get_of_mem (rises_nodup (rises_del hr k)) (mem_del.2 ⟨hx, e⟩)
theorem cnt_upd (c : Nat → Int) {k : Int} (hk : 0 ≤ k ∧ k < 16) (v t : Int) : cntC (updC c k v) t = if t = k then v else cntC c t := by
  unfold cntC
  by_cases e : t = k
  · subst e
    rw [if_pos hk, if_pos rfl, updC_at]
  · rw [if_neg e]
    split
    · rw [updC_off _ _ _ (by omega)]
    · rfl
theorem Tie.put {P : Pcs} {c : Nat → Int} (h : Tie P c) (hr : Rises P) {k v : Int} (hk : 0 ≤ k ∧ k < 16) (hv : 0 < v) : Tie (putP P k v) (updC c k v) := by
  refine ⟨fun t => ?_, fun x hx => ?_⟩
  · rw [get_put hr, cnt_upd c hk, h.get]
  · rcases mem_ins.1 hx with rfl | hx
    · exact ⟨hk, hv⟩
    · exact h.rng x (mem_del.1 hx).1
theorem Tie.del {P : Pcs} {c : Nat → Int} (h : Tie P c) (hr : Rises P) {k : Int} (hk : 0 ≤ k ∧ k < 16) : Tie (delP P k) (updC c k 0) := by
  refine ⟨fun t => ?_, fun x hx => h.rng x (mem_del.1 hx).1⟩
  rw [get_del hr, cnt_upd c hk, h.get]
theorem Tie.len {P : Pcs} {c : Nat → Int} (h : Tie P c) (hr : Rises P) : P.length < maxLen := by
  have := short 16 (P.map (·.1)) (rises_nodup hr) (fun x hx => by
    obtain ⟨y, hy, rfl⟩ := List.mem_map.1 hx
    have := (h.rng y hy).1
    omega)
  simp at this
  unfold maxLen
  omega
theorem Tie.congr {P : Pcs} {c c' : Nat → Int} (h : Tie P c) (e : ∀ t, t < 16 → c t = c' t) : Tie P c' := ⟨fun t => by
  rw [h.get]
  unfold cntC
  split
  · exact e _ (by omega)
  · rfl, h.rng⟩

/-- Its block. -/
abbrev lcells (M : Lk) (mb a b : Nat) : Array Value := #[.int .i64 M.w, .map (some mb), .pointer (some ⟨a, 0, none⟩), .pointer (some ⟨b, 0, none⟩)]
structure Li2 (w : World) (lb mb a b : Nat) (Ra Rb : List Nat) (M : Lk) : Prop where
  hh : w.heap[lb]? = some (.cells (lcells M mb a b) 57 (0, 0))
  mp : ∃ P, Mp w mb P ∧ Tie P M.c
  wr : Wr w a Ra M.r
  wq : Wr w b Rb M.q
  na : mb ∉ Ra
  nb : mb ∉ Rb
  ap : ∀ k ∈ Ra, k ∉ Rb
  lo : -1 ≤ M.w
  hi : M.w < 16
/-- A lock, by the blocks that it writes. -/
def Lc (w : World) (lb : Nat) (R : List Nat) (M : Lk) : Prop := ∃ mb a b Ra Rb, R = lb :: mb :: (Ra ++ Rb) ∧ Li2 w lb mb a b Ra Rb M
variable {w w' : World} {lb mb a b : Nat} {Ra Rb R : List Nat} {M : Lk}
theorem Wr.not57 {w : World} {wb : Nat} {R : List Nat} {L : List Dl} (h : Wr w wb R L) : ∀ k ∈ R, ∀ c, w.heap[k]? ≠ some (.cells c 57 (0, 0)) := by
  obtain ⟨pb, V, rfl, h⟩ := h
  intro k hk c
  obtain ⟨P, hP, -⟩ := h.mp
  obtain ⟨es, cl, hp⟩ := hP.obj
  simp only [rows, List.mem_cons, Option.mem_toList] at hk
  rcases hk with rfl | rfl | hk
  · rw [h.hh]; simp
  · rw [hp]; simp
  · obtain ⟨cur, hc⟩ := h.own hk
    rw [hc]; simp
theorem Li2.off (h : Li2 w lb mb a b Ra Rb M) : lb ≠ mb ∧ lb ∉ Ra ∧ lb ∉ Rb := by
  obtain ⟨P, hP, -⟩ := h.mp
  obtain ⟨es, cl, hp⟩ := hP.obj
  have hb := h.hh
  refine ⟨?_, fun hm => h.wr.not57 lb hm _ hb, fun hm => h.wq.not57 lb hm _ hb⟩
  rintro rfl
  rw [hb] at hp
  cases hp
theorem Li2.lt (h : Li2 w lb mb a b Ra Rb M) : ∀ k ∈ lb :: mb :: (Ra ++ Rb), k < w.heap.size := by
  obtain ⟨P, hP, -⟩ := h.mp
  obtain ⟨es, cl, hp⟩ := hP.obj
  intro k hk
  simp only [List.mem_cons, List.mem_append] at hk
  rcases hk with rfl | rfl | hk | hk
  · exact lt_of_block h.hh
  · exact lt_of_block hp
  · exact h.wr.lt k hk
  · exact h.wq.lt k hk
theorem Li2.keep (h : Li2 w lb mb a b Ra Rb M) {rs : List Nat} (hk : Kp w w' rs) (hr : ∀ k ∈ lb :: mb :: (Ra ++ Rb), k ∉ rs) : Li2 w' lb mb a b Ra Rb M := by
  obtain ⟨P, hP, hT⟩ := h.mp
  exact ⟨(hk.block lb (lt_of_block h.hh) (hr lb (by simp))).trans h.hh, ⟨P, hP.keep hk (hr mb (by simp)), hT⟩, h.wr.keep hk (fun k hm => hr k (by simp [hm])), h.wq.keep hk (fun k hm => hr k (by simp [hm])), h.na, h.nb, h.ap, h.lo, h.hi⟩
theorem Li2.same (h : Li2 w lb mb a b Ra Rb M) (hk : Kp w w' []) : Li2 w' lb mb a b Ra Rb M := h.keep hk (by simp)
theorem Li2.lc (h : Li2 w lb mb a b Ra Rb M) : Lc w lb (lb :: mb :: (Ra ++ Rb)) M := ⟨mb, a, b, Ra, Rb, rfl, h⟩
theorem Li2.c0 (h : Li2 w lb mb a b Ra Rb M) : w.cell? ⟨lb, 0, none⟩ = some (.int .i64 M.w) := by simp [World.cell?, h.hh]
theorem Li2.c1 (h : Li2 w lb mb a b Ra Rb M) : w.cell? ⟨lb, 1, none⟩ = some (.map (some mb)) := by simp [World.cell?, h.hh]
theorem Li2.c2 (h : Li2 w lb mb a b Ra Rb M) : w.cell? ⟨lb, 2, none⟩ = some (.pointer (some ⟨a, 0, none⟩)) := by simp [World.cell?, h.hh]
theorem Li2.c3 (h : Li2 w lb mb a b Ra Rb M) : w.cell? ⟨lb, 3, none⟩ = some (.pointer (some ⟨b, 0, none⟩)) := by simp [World.cell?, h.hh]
theorem Li2.free (h : Li2 w lb mb a b Ra Rb M) (i : Nat) : w.frozen? ⟨lb, i, none⟩ = false := by simp [World.frozen?, h.hh]
theorem Lc.lt (h : Lc w lb R M) : ∀ k ∈ R, k < w.heap.size := by
  obtain ⟨mb, a, b, Ra, Rb, rfl, h⟩ := h
  exact h.lt
theorem Lc.keep (h : Lc w lb R M) {rs : List Nat} (hk : Kp w w' rs) (hr : ∀ k ∈ R, k ∉ rs) : Lc w' lb R M := by
  obtain ⟨mb, a, b, Ra, Rb, rfl, h⟩ := h
  exact (h.keep hk hr).lc
theorem Lc.same (h : Lc w lb R M) (hk : Kp w w' []) : Lc w' lb R M := h.keep hk (by simp)
theorem Lc.kind (h : Lc w lb R M) : ∀ k ∈ R, ∀ c, w.heap[k]? ≠ some (.cells c 96 (0, 0)) := by
  obtain ⟨mb, a, b, Ra, Rb, rfl, h⟩ := h
  obtain ⟨P, hP, -⟩ := h.mp
  obtain ⟨es, cl, hp⟩ := hP.obj
  intro k hk c
  simp only [List.mem_cons, List.mem_append] at hk
  rcases hk with rfl | rfl | hk | hk
  · rw [h.hh]; simp
  · rw [hp]; simp
  · exact (h.wr.kind k hk c).2
  · exact (h.wq.kind k hk c).2
theorem Lc.congr {M' : Lk} (h : Lc w lb R M) (e : Le M M') : Lc w lb R M' := by
  obtain ⟨mb, a, b, Ra, Rb, rfl, h⟩ := h
  obtain ⟨P, hP, hT⟩ := h.mp
  exact ⟨mb, a, b, Ra, Rb, rfl, by have := h.hh; unfold lcells at this ⊢; rw [← e.w]; exact this, ⟨P, hP, hT.congr e.c⟩, e.r ▸ h.wr, e.q ▸ h.wq, h.na, h.nb, h.ap, e.w ▸ h.lo, e.w ▸ h.hi⟩
/-- What a call leaves. -/
def To (w w' : World) (lb : Nat) (R : List Nat) (M : Lk) : Prop := ∃ R', Lc w' lb R' M ∧ Nw w R R' ∧ Kp w w' R
theorem To.stay (h : Lc w lb R M) (hk : Kp w w' []) : To w w' lb R M := ⟨R, h.same hk, Nw.refl _ _, hk.nil⟩
theorem To.trans {w1 w2 : World} {M1 M2 : Lk} (h : To w w1 lb R M1) (h' : ∀ R1, Lc w1 lb R1 M1 → To w1 w2 lb R1 M2) : To w w2 lb R M2 := by
  obtain ⟨R1, s1, n1, k1⟩ := h
  obtain ⟨R2, s2, n2, k2⟩ := h' R1 s1
  refine ⟨R2, s2, n1.trans n2 k1.size, k1.past k2 (fun k hk hl => ?_)⟩
  rcases n1 k hk with q | q
  · exact q
  · omega
theorem To.more {w2 : World} (h : To w w' lb R M) (hk : Kp w' w2 []) : To w w2 lb R M := h.trans fun _ s => To.stay s hk
theorem To.first {w0 : World} (hk : Kp w0 w []) (h : To w w' lb R M) : To w0 w' lb R M := by
  obtain ⟨R1, s1, n1, k1⟩ := h
  exact ⟨R1, s1, fun k hm => (n1 k hm).imp id (fun h => Nat.le_trans hk.size h), hk.nil.trans k1⟩
theorem To.congr {M' : Lk} (h : To w w' lb R M) (e : Le M M') : To w w' lb R M' := by
  obtain ⟨R1, s1, n1, k1⟩ := h
  exact ⟨R1, s1.congr e, n1, k1⟩
theorem set_four0 {w : World} {r : Nat} {x a b c d : Value} {t : TypeId} (h : w.heap[r]? = some (.cells #[a, b, c, d] t (0, 0))) : (w.setCell ⟨r, 0, none⟩ x).heap[r]? = some (.cells #[x, b, c, d] t (0, 0)) := by
  rw [heap_setCell_same w r 0 _ t x h]
  rfl
/-- Who writes has changed. -/
theorem to_writer (h : Lc w lb R M) (x : Int) (h0 : -1 ≤ x) (h1 : x < 16) : To w (w.setCell ⟨lb, 0, none⟩ (.int .i64 x)) lb R { M with w := x } := by
  obtain ⟨mb, a, b, Ra, Rb, rfl, h⟩ := h
  obtain ⟨P, hP, hT⟩ := h.mp
  have ho := h.off
  have hk := Kp.setCell w ⟨lb, 0, none⟩ (.int .i64 x)
  refine ⟨_, ⟨mb, a, b, Ra, Rb, rfl, set_four0 h.hh, ⟨P, hP.keep hk (by simp; exact fun e => ho.1 e.symm), hT⟩, h.wr.keep hk (fun k hm e => ?_), h.wq.keep hk (fun k hm e => ?_), h.na, h.nb, h.ap, h0, h1⟩, Nw.refl _ _, hk.mono (fun k hm _ => by simp at hm; simp [hm])⟩
  · simp at e; subst e; exact ho.2.1 hm
  · simp at e; subst e; exact ho.2.2 hm
/-- How often one reads has changed. -/
theorem to_count {P : Pcs} {c : Nat → Int} (h : Li2 w lb mb a b Ra Rb M) (hm : Mp w' mb P) (hk : Kp w w' [mb]) (hT : Tie P c) : To w w' lb (lb :: mb :: (Ra ++ Rb)) { M with c := c } := by
  have ho := h.off
  refine ⟨_, ⟨mb, a, b, Ra, Rb, rfl, (hk.block lb (lt_of_block h.hh) (by simp; exact ho.1)).trans h.hh, ⟨P, hm, hT⟩, h.wr.keep hk (fun k hx e => ?_), h.wq.keep hk (fun k hx e => ?_), h.na, h.nb, h.ap, h.lo, h.hi⟩, Nw.refl _ _, hk.mono (fun k hm _ => by simp at hm; simp [hm])⟩
  · simp at e; subst e; exact h.na hx
  · simp at e; subst e; exact h.nb hx
/-- Who waits to read has changed. -/
theorem to_readers {L : List Dl} {R1 : List Nat} (h : Li2 w lb mb a b Ra Rb M) (h1 : Wr w' a R1 L) (hn : Nw w Ra R1) (hk : Kp w w' Ra) : To w w' lb (lb :: mb :: (Ra ++ Rb)) { M with r := L } := by
  obtain ⟨P, hP, hT⟩ := h.mp
  have ho := h.off
  have hl := h.lt
  have far : ∀ k, k ∈ R1 → k ∉ Ra → w.heap.size ≤ k := fun k hm hx => (hn k hm).elim (fun q => absurd q hx) id
  refine ⟨_, ⟨mb, a, b, R1, Rb, rfl, (hk.block lb (hl lb (by simp)) ho.2.1).trans h.hh, ⟨P, hP.keep hk h.na, hT⟩, h1, h.wq.keep hk (fun k hm e => h.ap k e hm), fun hm => ?_, h.nb, fun k hm e => ?_, h.lo, h.hi⟩, fun k hm => ?_, hk.mono (fun k hm _ => by simp [hm])⟩
  · have := far _ hm h.na; have := hl mb (by simp); omega
  · by_cases hx : k ∈ Ra
    · exact h.ap k hx e
    · have := far _ hm hx; have := hl k (by simp [e]); omega
  · simp only [List.mem_cons, List.mem_append] at hm ⊢
    rcases hm with e | e | e | e
    · exact .inl (.inl e)
    · exact .inl (.inr (.inl e))
    · exact (hn k e).imp (fun q => .inr (.inr (.inl q))) id
    · exact .inl (.inr (.inr (.inr e)))
/-- Who waits to write has changed. -/
theorem to_writers {L : List Dl} {R1 : List Nat} (h : Li2 w lb mb a b Ra Rb M) (h1 : Wr w' b R1 L) (hn : Nw w Rb R1) (hk : Kp w w' Rb) : To w w' lb (lb :: mb :: (Ra ++ Rb)) { M with q := L } := by
  obtain ⟨P, hP, hT⟩ := h.mp
  have ho := h.off
  have hl := h.lt
  have far : ∀ k, k ∈ R1 → k ∉ Rb → w.heap.size ≤ k := fun k hm hx => (hn k hm).elim (fun q => absurd q hx) id
  refine ⟨_, ⟨mb, a, b, Ra, R1, rfl, (hk.block lb (hl lb (by simp)) ho.2.2).trans h.hh, ⟨P, hP.keep hk h.nb, hT⟩, h.wr.keep hk (fun k hm e => h.ap k hm e), h1, h.na, fun hm => ?_, fun k hm e => ?_, h.lo, h.hi⟩, fun k hm => ?_, hk.mono (fun k hm _ => by simp [hm])⟩
  · have := far _ hm h.nb; have := hl mb (by simp); omega
  · by_cases hx : k ∈ Rb
    · exact h.ap k hm hx
    · have := far _ e hx; have := hl k (by simp [hm]); omega
  · simp only [List.mem_cons, List.mem_append] at hm ⊢
    rcases hm with e | e | e | e
    · exact .inl (.inl e)
    · exact .inl (.inr (.inl e))
    · exact .inl (.inr (.inr (.inl e)))
    · exact (hn k e).imp (fun q => .inr (.inr (.inr q))) id
/-- None: nil, or a zero one. -/
def Zl (w : World) (p : Option Addr) : Prop := p = none ∨ ∃ b, p = some ⟨b, 0, none⟩ ∧ w.heap[b]? = some (.cells #[.int .i64 0, .map none, .pointer none, .pointer none] 57 (0, 0))
theorem Zl.keep {p : Option Addr} (h : Zl w p) (hk : Kp w w' []) : Zl w' p := by
  rcases h with h | ⟨b, e, h⟩
  · exact .inl h
  · exact .inr ⟨b, e, (hk.block b (lt_of_block h) (by simp)).trans h⟩
/-- One that may not be there. -/
def Lv (w : World) (p : Option Addr) (R : List Nat) (M : Lk) : Prop := (∃ lb, p = some ⟨lb, 0, none⟩ ∧ Lc w lb R M) ∨ (Zl w p ∧ R = [] ∧ M = newL)
theorem Lv.keep {p : Option Addr} (h : Lv w p R M) (hk : Kp w w' []) : Lv w' p R M := by
  rcases h with ⟨lb, e, h⟩ | ⟨h, e⟩
  · exact .inl ⟨lb, e, h.same hk⟩
  · exact .inr ⟨h.keep hk, e⟩
theorem Lc.lv (h : Lc w lb R M) : Lv w (some ⟨lb, 0, none⟩) R M := .inl ⟨lb, rfl, h⟩
theorem Zl.lv {p : Option Addr} (h : Zl w p) : Lv w p [] newL := .inr ⟨h, rfl, rfl⟩
theorem z_none (w : World) : Zw w none := .inl rfl
theorem map_eql (w : World) (p : Option Nat) : (binOp .eql 53 (.map p) (.map none)).run Try.prog w = .ok (.bool p.isNone) w := run_eql_map_nil_sl w 53 3 3 p Try.underlying53
theorem Mp.look53 {w : World} {b : Nat} {P : Pcs} (h : Mp w b P) {k : Int} (hk : i64 k) : (Instr.lookup 53 (.map (some b)) (.int .i64 k) false).run Try.prog w = .ok (.int .i64 (getP P k)) w := h.look1 hk.1 hk.2
theorem Mp.len53 {w : World} {b : Nat} {P : Pcs} (h : Mp w b P) (ty : TypeId) : (Builtin.len_ #[53] ty #[.map (some b)]).run Try.prog w = .ok (.int .i64 P.length) w := by
  have := World.ownsMap.len h Try.underlying53 ty
  rw [dat_size] at this
  exact this

set_option maxRecDepth 100000 in
/-- isZero. -/
theorem lzero_no (w : World) (lb : Nat) (R : List Nat) (M : Lk) (h : Lc w lb R M) : Calls Try.prog 41 #[.pointer (some ⟨lb, 0, none⟩)] w fun e w' => e = .returned (.bool false) ∧ w' = w := by
  obtain ⟨mb, a, b, Ra, Rb, -, h⟩ := h
  have c1 := h.c1
  have hq := fun w => map_eql w (some mb)
  clear h
  go_enter Try.func41, Try.ntmps41
  go_wp2
  go_ret
  exact ⟨rfl, rfl⟩
set_option maxRecDepth 100000 in
theorem lzero_yes (w : World) (p : Option Addr) (h : Zl w p) : Calls Try.prog 41 #[.pointer p] w fun e w' => e = .returned (.bool true) ∧ w' = w := by
  rcases h with rfl | ⟨b, rfl, h⟩
  · go_enter Try.func41, Try.ntmps41
    go_wp2
    go_ret
    exact ⟨rfl, rfl⟩
  · have c1 : w.cell? ⟨b, 1, none⟩ = some (.map none) := by simp [World.cell?, h]
    have hq := fun w => map_eql w none
    clear h
    go_enter Try.func41, Try.ntmps41
    go_wp2
    go_ret
    exact ⟨rfl, rfl⟩
set_option maxRecDepth 100000 in
/-- line. -/
theorem lline0 (w : World) (lb mb a b : Nat) (Ra Rb : List Nat) (M : Lk) (h : Li2 w lb mb a b Ra Rb M) : Calls Try.prog 45 #[.pointer (some ⟨lb, 0, none⟩), .int .i64 0] w fun e w' => e = .returned (.pointer (some ⟨a, 0, none⟩)) ∧ w' = w := by
  have HZ := hid (lzero_no w lb _ M h.lc)
  have c2 := h.c2
  clear h
  go_enter Try.func45, Try.ntmps45
  go_wp2_with fail
  refine HZ.out.mono ?_
  rintro e w1 ⟨rfl, hw⟩; obtain rfl := hw.symm
  go_wp2
  go_ret
  exact ⟨rfl, rfl⟩
set_option maxRecDepth 100000 in
theorem lline1 (w : World) (lb mb a b : Nat) (Ra Rb : List Nat) (M : Lk) (h : Li2 w lb mb a b Ra Rb M) : Calls Try.prog 45 #[.pointer (some ⟨lb, 0, none⟩), .int .i64 1] w fun e w' => e = .returned (.pointer (some ⟨b, 0, none⟩)) ∧ w' = w := by
  have HZ := hid (lzero_no w lb _ M h.lc)
  have c3 := h.c3
  clear h
  go_enter Try.func45, Try.ntmps45
  go_wp2_with fail
  refine HZ.out.mono ?_
  rintro e w1 ⟨rfl, hw⟩; obtain rfl := hw.symm
  go_wp2
  go_ret
  exact ⟨rfl, rfl⟩
set_option maxRecDepth 100000 in
theorem lline_no (w : World) (p : Option Addr) (x : Int) (h : Zl w p) : Calls Try.prog 45 #[.pointer p, .int .i64 x] w fun e w' => e = .returned (.pointer none) ∧ w' = w := by
  have HZ := hid (lzero_yes w p h)
  clear h
  go_enter Try.func45, Try.ntmps45
  go_wp2_with fail
  refine HZ.out.mono ?_
  rintro e w1 ⟨rfl, hw⟩; obtain rfl := hw.symm
  go_wp2
  go_ret
  exact ⟨rfl, rfl⟩
theorem lwho0 (w : World) (p : Option Addr) (R : List Nat) (M : Lk) (h : Lv w p R M) : ∃ q, Calls Try.prog 45 #[.pointer p, .int .i64 0] w (fun e w' => e = .returned (.pointer q) ∧ w' = w) ∧ Vw w q M.r := by
  rcases h with ⟨lb, rfl, mb, a, b, Ra, Rb, -, h⟩ | ⟨h, -, rfl⟩
  · exact ⟨_, lline0 w lb mb a b Ra Rb M h, h.wr.vw⟩
  · exact ⟨none, lline_no w p 0 h, (z_none w).vw⟩
theorem lwho1 (w : World) (p : Option Addr) (R : List Nat) (M : Lk) (h : Lv w p R M) : ∃ q, Calls Try.prog 45 #[.pointer p, .int .i64 1] w (fun e w' => e = .returned (.pointer q) ∧ w' = w) ∧ Vw w q M.q := by
  rcases h with ⟨lb, rfl, mb, a, b, Ra, Rb, -, h⟩ | ⟨h, -, rfl⟩
  · exact ⟨_, lline1 w lb mb a b Ra Rb M h, h.wq.vw⟩
  · exact ⟨none, lline_no w p 1 h, (z_none w).vw⟩
set_option maxRecDepth 100000 in
/-- Waiting. -/
theorem lwaiting (w : World) (p : Option Addr) (R : List Nat) (M : Lk) (t : Int) (h : Lv w p R M) (ht : i64 t) : Calls Try.prog 36 #[.pointer p, .int .i64 t] w fun e w' => e = .returned (.tuple #[.bool (hasP M.q t), .bool (hasP M.q t || hasP M.r t)]) ∧ w' = w := by
  obtain ⟨q0, hq0, v0⟩ := lwho0 w p R M h
  obtain ⟨q1, hq1, v1⟩ := lwho1 w p R M h
  have H0 := hid hq0
  have H1 := hid hq1
  have G0 := hid (has_any w q0 M.r t v0 ht)
  have G1 := hid (has_any w q1 M.q t v1 ht)
  generalize hasP M.r t = A at G0 ⊢
  generalize hasP M.q t = B at G1 ⊢
  clear h ht hq0 hq1 v0 v1
  cases B with
  | false =>
    go_enter Try.func36, Try.ntmps36
    go_wp2_with fail
    refine H1.out.mono ?_
    rintro e w1 ⟨rfl, hw⟩; obtain rfl := hw.symm
    go_wp2_with fail
    refine G1.out.mono ?_
    rintro e w1 ⟨rfl, hw⟩; obtain rfl := hw.symm
    go_wp2_with fail
    refine H0.out.mono ?_
    rintro e w1 ⟨rfl, hw⟩; obtain rfl := hw.symm
    go_wp2_with fail
    refine G0.out.mono ?_
    rintro e w1 ⟨rfl, hw⟩; obtain rfl := hw.symm
    go_wp2
    go_ret2
    exact ⟨rfl, rfl⟩
  | true =>
    go_enter Try.func36, Try.ntmps36
    go_wp2_with fail
    refine H1.out.mono ?_
    rintro e w1 ⟨rfl, hw⟩; obtain rfl := hw.symm
    go_wp2_with fail
    refine G1.out.mono ?_
    rintro e w1 ⟨rfl, hw⟩; obtain rfl := hw.symm
    go_wp2
    go_ret2
    exact ⟨rfl, rfl⟩
set_option maxRecDepth 100000 in
/-- lineOf. -/
theorem lof_yes (w : World) (lb mb a b : Nat) (Ra Rb : List Nat) (M : Lk) (t : Int) (h : Li2 w lb mb a b Ra Rb M) (ht : i64 t) (hq : hasP M.q t = true) : Calls Try.prog 49 #[.pointer (some ⟨lb, 0, none⟩), .int .i64 t] w fun e w' => e = .returned (.pointer (some ⟨b, 0, none⟩)) ∧ w' = w := by
  have H0 := hid (lwaiting w _ _ M t h.lc.lv ht)
  have H1 := hid (lline1 w lb mb a b Ra Rb M h)
  rw [hq] at H0
  clear h ht hq
  go_enter Try.func49, Try.ntmps49
  go_wp2_with fail
  refine H0.out.mono ?_
  rintro e w1 ⟨rfl, hw⟩; obtain rfl := hw.symm
  go_wp2_with fail
  refine H1.out.mono ?_
  rintro e w1 ⟨rfl, hw⟩; obtain rfl := hw.symm
  go_wp2
  go_ret
  exact ⟨rfl, rfl⟩
set_option maxRecDepth 100000 in
theorem lof_no (w : World) (lb mb a b : Nat) (Ra Rb : List Nat) (M : Lk) (t : Int) (h : Li2 w lb mb a b Ra Rb M) (ht : i64 t) (hq : hasP M.q t = false) : Calls Try.prog 49 #[.pointer (some ⟨lb, 0, none⟩), .int .i64 t] w fun e w' => e = .returned (.pointer (some ⟨a, 0, none⟩)) ∧ w' = w := by
  have H0 := hid (lwaiting w _ _ M t h.lc.lv ht)
  have H1 := hid (lline0 w lb mb a b Ra Rb M h)
  rw [hq] at H0
  clear h ht hq
  go_enter Try.func49, Try.ntmps49
  go_wp2_with fail
  refine H0.out.mono ?_
  rintro e w1 ⟨rfl, hw⟩; obtain rfl := hw.symm
  go_wp2_with fail
  refine H1.out.mono ?_
  rintro e w1 ⟨rfl, hw⟩; obtain rfl := hw.symm
  go_wp2
  go_ret
  exact ⟨rfl, rfl⟩
set_option maxRecDepth 100000 in
theorem lof_nil (w : World) (p : Option Addr) (t : Int) (h : Zl w p) (ht : i64 t) : Calls Try.prog 49 #[.pointer p, .int .i64 t] w fun e w' => e = .returned (.pointer none) ∧ w' = w := by
  have H0 := hid (lwaiting w p _ _ t h.lv ht)
  have H1 := hid (lline_no w p 0 h)
  rw [show hasP newL.q t = false from rfl] at H0
  clear h ht
  go_enter Try.func49, Try.ntmps49
  go_wp2_with fail
  refine H0.out.mono ?_
  rintro e w1 ⟨rfl, hw⟩; obtain rfl := hw.symm
  go_wp2_with fail
  refine H1.out.mono ?_
  rintro e w1 ⟨rfl, hw⟩; obtain rfl := hw.symm
  go_wp2
  go_ret
  exact ⟨rfl, rfl⟩
set_option maxRecDepth 100000 in
/-- Reads. -/
theorem lreads (w : World) (p : Option Addr) (R : List Nat) (M : Lk) (t : Int) (h : Lv w p R M) (ht : i64 t) : Calls Try.prog 38 #[.pointer p, .int .i64 t] w fun e w' => e = .returned (.int .i64 (cntC M.c t)) ∧ w' = w := by
  rcases h with ⟨lb, rfl, h⟩ | ⟨h, -, rfl⟩
  · have HZ := hid (lzero_no w lb R M h)
    obtain ⟨mb, a, b, Ra, Rb, -, h⟩ := h
    have c1 := h.c1
    obtain ⟨P, hP, hT⟩ := h.mp
    have hl := hP.look53 ht
    rw [hT.get] at hl
    generalize cntC M.c t = C at hl ⊢
    clear h hP hT ht
    go_enter Try.func38, Try.ntmps38
    go_wp2_with fail
    refine HZ.out.mono ?_
    rintro e w1 ⟨rfl, hw⟩; obtain rfl := hw.symm
    go_wp2
    go_ret
    exact ⟨rfl, rfl⟩
  · have HZ := hid (lzero_yes w p h)
    rw [show cntC newL.c t = 0 by unfold cntC newL; simp]
    clear h ht
    go_enter Try.func38, Try.ntmps38
    go_wp2_with fail
    refine HZ.out.mono ?_
    rintro e w1 ⟨rfl, hw⟩; obtain rfl := hw.symm
    go_wp2
    go_ret
    exact ⟨rfl, rfl⟩
set_option maxRecDepth 100000 in
/-- Held. -/
theorem lheld (w : World) (p : Option Addr) (R : List Nat) (M : Lk) (h : Lv w p R M) : Calls Try.prog 34 #[.pointer p] w fun e w' => e = .returned (.bool (heldL M)) ∧ w' = w := by
  rcases h with ⟨lb, rfl, h⟩ | ⟨h, -, rfl⟩
  · have HZ := hid (lzero_no w lb R M h)
    obtain ⟨mb, a, b, Ra, Rb, -, h⟩ := h
    have c0 := h.c0
    have c1 := h.c1
    obtain ⟨P, hP, hT⟩ := h.mp
    have hl := hP.len53
    have e2 := hT.any hP.rises
    unfold heldL
    rw [← e2]
    have lo := h.lo
    generalize M.w = X at c0 lo ⊢
    generalize P.length = n at hl ⊢
    clear h hP hT e2
    by_cases hx : X = -1
    · have e1 : (X != -1) = false := by simp [hx]
      have e3 : decide (0 ≤ X) = false := by simp; omega
      rw [e3, Bool.false_or]
      clear hx e3 lo
      go_enter Try.func34, Try.ntmps34
      go_wp2_with fail
      refine HZ.out.mono ?_
      rintro e w1 ⟨rfl, hw⟩; obtain rfl := hw.symm
      go_wp2
      go_ret
      exact ⟨by simp, rfl⟩
    · have e1 : (X != -1) = true := by simp [hx]
      have e3 : decide (0 ≤ X) = true := by simp; omega
      rw [e3, Bool.true_or]
      clear hx e3 lo
      go_enter Try.func34, Try.ntmps34
      go_wp2_with fail
      refine HZ.out.mono ?_
      rintro e w1 ⟨rfl, hw⟩; obtain rfl := hw.symm
      go_wp2
      go_ret
      exact ⟨rfl, rfl⟩
  · have HZ := hid (lzero_yes w p h)
    rw [show heldL newL = false by decide]
    clear h
    go_enter Try.func34, Try.ntmps34
    go_wp2_with fail
    refine HZ.out.mono ?_
    rintro e w1 ⟨rfl, hw⟩; obtain rfl := hw.symm
    go_wp2
    go_ret
    exact ⟨rfl, rfl⟩
/-- What Writer tells. -/
def wrV (M : Lk) : Int := if 0 ≤ M.w then M.w else 0
def wrI (M : Lk) : Bool := decide (0 ≤ M.w)
set_option maxRecDepth 100000 in
theorem lwriter (w : World) (p : Option Addr) (R : List Nat) (M : Lk) (h : Lv w p R M) : Calls Try.prog 24 #[.pointer p] w fun e w' => e = .returned (.tuple #[.int .i64 (wrV M), .bool (wrI M)]) ∧ w' = w := by
  rcases h with ⟨lb, rfl, h⟩ | ⟨h, -, rfl⟩
  · have HZ := hid (lzero_no w lb R M h)
    obtain ⟨mb, a, b, Ra, Rb, -, h⟩ := h
    have c0 := h.c0
    unfold wrV wrI
    have lo := h.lo
    generalize M.w = X at c0 lo ⊢
    clear h
    by_cases hx : X = -1
    · have e1 : (X == -1) = true := by simp [hx]
      have e3 : decide (0 ≤ X) = false := by simp; omega
      rw [e3, if_neg (by omega)]
      clear hx e3 lo
      go_enter Try.func24, Try.ntmps24
      go_wp2_with fail
      refine HZ.out.mono ?_
      rintro e w1 ⟨rfl, hw⟩; obtain rfl := hw.symm
      go_wp2
      go_ret2
      exact ⟨rfl, rfl⟩
    · have e1 : (X == -1) = false := by simp [hx]
      have e3 : decide (0 ≤ X) = true := by simp; omega
      rw [e3, if_pos (by omega)]
      clear hx e3 lo
      go_enter Try.func24, Try.ntmps24
      go_wp2_with fail
      refine HZ.out.mono ?_
      rintro e w1 ⟨rfl, hw⟩; obtain rfl := hw.symm
      go_wp2
      go_ret2
      exact ⟨rfl, rfl⟩
  · have HZ := hid (lzero_yes w p h)
    rw [show wrV newL = 0 by decide, show wrI newL = false by decide]
    clear h
    go_enter Try.func24, Try.ntmps24
    go_wp2_with fail
    refine HZ.out.mono ?_
    rintro e w1 ⟨rfl, hw⟩; obtain rfl := hw.symm
    go_wp2
    go_ret2
    exact ⟨rfl, rfl⟩
set_option maxRecDepth 100000 in
theorem lreaders (w : World) (p : Option Addr) (R : List Nat) (M : Lk) (h : Lv w p R M) : Calls Try.prog 39 #[.pointer p] w fun e w' => ∃ x, e = .returned x ∧ Ns w' w.heap.size x ((ordL M.r).map (·.1)) ∧ Kp w w' [] := by
  obtain ⟨q, hq, hv⟩ := lwho0 w p R M h
  have HQ := hid hq
  have HL := hid (list_any w q M.r hv)
  clear h hq hv
  go_enter Try.func39, Try.ntmps39
  go_wp2_with fail
  refine HQ.out.mono ?_
  rintro e w1 ⟨rfl, hw⟩; obtain rfl := hw.symm
  go_wp2_with fail
  refine HL.out.mono ?_
  rintro e w1 ⟨x, rfl, hx, hk⟩
  have HX := hid (And.intro hx hk)
  clear hx hk
  go_wp2
  go_ret
  exact ⟨x, rfl, HX.out.1, HX.out.2⟩
set_option maxRecDepth 100000 in
theorem lwriters (w : World) (p : Option Addr) (R : List Nat) (M : Lk) (h : Lv w p R M) : Calls Try.prog 14 #[.pointer p] w fun e w' => ∃ x, e = .returned x ∧ Ns w' w.heap.size x ((ordL M.q).map (·.1)) ∧ Kp w w' [] := by
  obtain ⟨q, hq, hv⟩ := lwho1 w p R M h
  have HQ := hid hq
  have HL := hid (list_any w q M.q hv)
  clear h hq hv
  go_enter Try.func14, Try.ntmps14
  go_wp2_with fail
  refine HQ.out.mono ?_
  rintro e w1 ⟨rfl, hw⟩; obtain rfl := hw.symm
  go_wp2_with fail
  refine HL.out.mono ?_
  rintro e w1 ⟨x, rfl, hx, hk⟩
  have HX := hid (And.intro hx hk)
  clear hx hk
  go_wp2
  go_ret
  exact ⟨x, rfl, HX.out.1, HX.out.2⟩
set_option maxRecDepth 100000 in
/-- isBusy. -/
theorem lbusy (w : World) (lb : Nat) (R : List Nat) (M : Lk) (t : Int) (h : Lc w lb R M) (ht : i64 t) : Calls Try.prog 55 #[.pointer (some ⟨lb, 0, none⟩), .int .i64 t] w fun e w' => e = .returned (.bool (hasP M.r t || hasP M.q t || decide (M.w = t))) ∧ w' = w := by
  have H0 := hid (lwaiting w _ R M t h.lv ht)
  obtain ⟨mb, a, b, Ra, Rb, -, h⟩ := h
  have c0 := h.c0
  rw [Bool.or_comm (hasP M.r t)]
  generalize (hasP M.q t || hasP M.r t) = B at H0 ⊢
  generalize hasP M.q t = A at H0
  generalize M.w = X at c0 ⊢
  clear h ht
  cases B with
  | true =>
    rw [Bool.true_or]
    go_enter Try.func55, Try.ntmps55
    go_wp2_with fail
    refine H0.out.mono ?_
    rintro e w1 ⟨rfl, hw⟩; obtain rfl := hw.symm
    go_wp2
    go_ret
    exact ⟨rfl, rfl⟩
  | false =>
    rw [Bool.false_or]
    go_enter Try.func55, Try.ntmps55
    go_wp2_with fail
    refine H0.out.mono ?_
    rintro e w1 ⟨rfl, hw⟩; obtain rfl := hw.symm
    go_wp2
    go_ret
    exact ⟨by first | rfl | simp [beq_eq_decide], rfl⟩
set_option maxRecDepth 100000 in
theorem lthread (w : World) (t : Int) : Calls Try.prog 52 #[.int .i64 t] w fun e w' => e = .returned (.bool (mayT t)) ∧ w' = w := by
  by_cases h0 : 0 ≤ t <;> by_cases h1 : t < 16
  all_goals (
    go_enter Try.func52, Try.ntmps52
    go_wp2
    go_ret
    exact ⟨by simp [mayT, h0, h1], rfl⟩)
set_option maxRecDepth 100000 in
theorem lprio (w : World) (t : Int) : Calls Try.prog 53 #[.int .i64 t] w fun e w' => e = .returned (.bool (mayP t)) ∧ w' = w := by
  by_cases h0 : 1 ≤ t <;> by_cases h1 : t ≤ 31
  all_goals (
    go_enter Try.func53, Try.ntmps53
    go_wp2
    go_ret
    exact ⟨by simp [mayP, h0, h1], rfl⟩)
end Go.Proofs.Ytcfjlmkeomiiaaa
