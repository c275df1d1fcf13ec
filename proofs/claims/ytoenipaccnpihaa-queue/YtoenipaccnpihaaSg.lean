/- Signals in memory. -/
import Derived.Test.YtoenipaccnpihaaVc
import Derived.Test.YtoenipaccnpihaaMq
import Derived.Test.YtoenipaccnpihaaNums
namespace Go.Proofs.Ytoenipaccnpihaa
open Go.RowKit Go.Shelf Go.Lib Go.Sort Go.Maps
attribute [local go_sem] Oper.semAt_some

/-- What a block of signals holds: how many threads and slots, the masks, what is pending, the queues. -/
def sV (T S : Nat) (M p : Nat → Nat) (mb : Nat) : Nat → Value := fun i => if i = 0 then .int .i64 (T : Nat) else if i = 1 then .int .i64 (S : Nat) else if i < 18 then .int .u32 (M (i - 2) : Nat) else if i < 34 then .int .u32 (p (i - 18) : Nat) else .map (some mb)
def Sc (w : World) (sb T S : Nat) (M p : Nat → Nat) (mb : Nat) : Prop := w.heap[sb]? = some (.cells (vcl (sV T S M p mb) 35 0).toArray 61 (0, 0))
def upd (f : Nat → Nat) (i v : Nat) : Nat → Nat := fun j => if j = i then v else f j
section
variable {w w' : World} {sb T S mb : Nat} {M p : Nat → Nat}
theorem Sc.lt (h : Sc w sb T S M p mb) : sb < w.heap.size := lt_of_block h
theorem Sc.keep {rows : List Nat} (h : Sc w sb T S M p mb) (hk : Kp w w' rows) (hr : sb ∉ rows) : Sc w' sb T S M p mb := (hk.block sb (lt_of_block h) hr).trans h
theorem Sc.free (h : Sc w sb T S M p mb) (i : Nat) : w.frozen? ⟨sb, i, none⟩ = false := by unfold Sc at h; simp [World.frozen?, h]
theorem Sc.thr (h : Sc w sb T S M p mb) : w.cell? ⟨sb, 0, none⟩ = some (.int .i64 (T : Nat)) := vcl_cell h 0 (by omega)
theorem Sc.slt (h : Sc w sb T S M p mb) : w.cell? ⟨sb, 1, none⟩ = some (.int .i64 (S : Nat)) := vcl_cell h 1 (by omega)
theorem Sc.mp (h : Sc w sb T S M p mb) : w.cell? ⟨sb, 34, none⟩ = some (.map (some mb)) := vcl_cell h 34 (by omega)
theorem sV_m (t : Nat) (ht : t < 16) : sV T S M p mb (2 + t) = .int .u32 (M t : Nat) := by
  unfold sV
  rw [if_neg (by omega), if_neg (by omega), if_pos (by omega), show 2 + t - 2 = t by omega]
theorem sV_p (t : Nat) (ht : t < 16) : sV T S M p mb (18 + t) = .int .u32 (p t : Nat) := by
  unfold sV
  rw [if_neg (by omega), if_neg (by omega), if_neg (by omega), if_pos (by omega), show 18 + t - 18 = t by omega]
theorem Sc.ms (h : Sc w sb T S M p mb) {t : Nat} (ht : t < 16) : w.cell? ⟨sb, 2 + t, none⟩ = some (.int .u32 (M t : Nat)) := by rw [vcl_cell h _ (by omega), sV_m t ht]
theorem Sc.ps (h : Sc w sb T S M p mb) {t : Nat} (ht : t < 16) : w.cell? ⟨sb, 18 + t, none⟩ = some (.int .u32 (p t : Nat)) := by rw [vcl_cell h _ (by omega), sV_p t ht]
theorem Sc.setM (h : Sc w sb T S M p mb) {t : Nat} (ht : t < 16) (x : Nat) : Sc (w.setCell ⟨sb, 2 + t, none⟩ (.int .u32 (x : Nat))) sb T S (upd M t x) p mb := by
  refine vcl_heap h (by omega) fun i hi => ?_
  by_cases e : i = 2 + t
  · rw [if_pos e, e, sV_m t ht]
    simp [upd]
  · rw [if_neg e]
    unfold sV upd
    by_cases e0 : i = 0
    · simp [e0]
    by_cases e1 : i = 1
    · simp [e1]
    rw [if_neg e0, if_neg e1, if_neg e0, if_neg e1]
    by_cases e2 : i < 18
    · rw [if_pos e2, if_pos e2, if_neg (by omega)]
    · rw [if_neg e2, if_neg e2]
theorem Sc.setP (h : Sc w sb T S M p mb) {t : Nat} (ht : t < 16) (x : Nat) : Sc (w.setCell ⟨sb, 18 + t, none⟩ (.int .u32 (x : Nat))) sb T S M (upd p t x) mb := by
  refine vcl_heap h (by omega) fun i hi => ?_
  by_cases e : i = 18 + t
  · rw [if_pos e, e, sV_p t ht]
    simp [upd]
  · rw [if_neg e]
    unfold sV upd
    by_cases e0 : i = 0
    · simp [e0]
    by_cases e1 : i = 1
    · simp [e1]
    rw [if_neg e0, if_neg e1, if_neg e0, if_neg e1]
    by_cases e2 : i < 18
    · rw [if_pos e2, if_pos e2]
    rw [if_neg e2, if_neg e2]
    by_cases e3 : i < 34
    · rw [if_pos e3, if_pos e3, if_neg (by omega)]
    · rw [if_neg e3, if_neg e3]
theorem Sc.congr {M' p' : Nat → Nat} (h : Sc w sb T S M p mb) (e : ∀ t, t < 16 → M t = M' t ∧ p t = p' t) : Sc w sb T S M' p' mb := by
  unfold Sc at h ⊢
  rw [h]
  congr 3
  apply vcl_congr
  intro j hj
  rw [Nat.zero_add]
  unfold sV
  by_cases e0 : j = 0
  · rw [if_pos e0, if_pos e0]
  by_cases e1 : j = 1
  · rw [if_neg e0, if_pos e1, if_neg e0, if_pos e1]
  rw [if_neg e0, if_neg e1, if_neg e0, if_neg e1]
  by_cases e2 : j < 18
  · rw [if_pos e2, if_pos e2, (e (j - 2) (by omega)).1]
  rw [if_neg e2, if_neg e2]
  by_cases e3 : j < 34
  · rw [if_pos e3, if_pos e3, (e (j - 18) (by omega)).2]
  · rw [if_neg e3, if_neg e3]
end
/-- Which slices the map holds: of each number that queues where any is pending, at a block and with a room. -/
def Fq (L : El) (g cap : Nat → Nat → Nat) : QF := fun t n => if 16 ≤ n ∧ q L t n ≠ [] then some (.slice (some ⟨g t n, 0, none⟩) (q L t n).length (cap t n)) else none
/-- Signals in memory, with the parts. -/
structure Sp (w : World) (sb : Nat) (R : List Nat) (T S : Nat) (M : Nat → Nat) (L : El) (mb : Nat) (g cap : Nat → Nat → Nat) : Prop where
  c : Sc w sb T S M (pend L) mb
  m : Mq w mb (Fq L g cap)
  row : ∀ t n, 16 ≤ n → q L t n ≠ [] → Ns w 0 (.slice (some ⟨g t n, 0, none⟩) (q L t n).length (cap t n)) (q L t n) ∧ g t n ∈ R
  inj : ∀ t n t' n', 16 ≤ n → q L t n ≠ [] → 16 ≤ n' → q L t' n' ≠ [] → g t n = g t' n' → t' = t ∧ n' = n
  sR : sb ∈ R
  mR : mb ∈ R
  lt : ∀ j ∈ R, j < w.heap.size
  ok : Ok T S L
  t1 : 1 ≤ T
  t2 : T ≤ 16
  s1 : 1 ≤ S
  s2 : S ≤ 32
  mm : ∀ t, M t < 4294967296
/-- Signals in memory, by the blocks that they write. -/
def Sg (w : World) (sb : Nat) (R : List Nat) (T S : Nat) (M : Nat → Nat) (L : El) : Prop := ∃ mb g cap, Sp w sb R T S M L mb g cap
/-- Blocks that were there, or new ones. -/
def Nw (w : World) (R R' : List Nat) : Prop := ∀ k ∈ R', k ∈ R ∨ w.heap.size ≤ k
theorem Nw.refl (w : World) (R : List Nat) : Nw w R R := fun _ h => .inl h
theorem Nw.trans {w w1 : World} {R R1 R2 : List Nat} (h : Nw w R R1) (h' : Nw w1 R1 R2) (hs : w.heap.size ≤ w1.heap.size) : Nw w R R2 := fun k hk => by
  rcases h' k hk with q | q
  · exact h k q
  · exact .inr (Nat.le_trans hs q)
section
variable {w w' : World} {sb T S mb : Nat} {M : Nat → Nat} {L : El} {R : List Nat} {g cap : Nat → Nat → Nat}
theorem Sp.own (h : Sp w sb R T S M L mb g cap) {t n : Nat} (hn : 16 ≤ n) (hq : q L t n ≠ []) : ∃ cur, w.heap[g t n]? = some (.cells cur 2 (0, 0)) := (owns_block (h.row t n hn hq).1 rfl).2
theorem Sp.ne (h : Sp w sb R T S M L mb g cap) : sb ≠ mb ∧ ∀ t n, 16 ≤ n → q L t n ≠ [] → g t n ≠ sb ∧ g t n ≠ mb := by
  obtain ⟨es, clock, hm⟩ := h.m.obj
  have hc := h.c
  unfold Sc at hc
  refine ⟨?_, fun t n hn hq => ?_⟩
  · rintro rfl
    rw [hc] at hm
    cases hm
  · obtain ⟨cur, hg⟩ := h.own hn hq
    constructor
    · intro e
      rw [e, hc] at hg
      simp at hg
    · intro e
      rw [e, hm] at hg
      cases hg
theorem Sp.keep (h : Sp w sb R T S M L mb g cap) {rs : List Nat} (hk : Kp w w' rs) (hr : ∀ k ∈ R, k ∉ rs) : Sp w' sb R T S M L mb g cap :=
  ⟨h.c.keep hk (hr _ h.sR), h.m.keep hk (hr _ h.mR), fun t n hn hq => ⟨(h.row t n hn hq).1.kp hk (fun g' hg => by
    simp [Value.ownBlock] at hg
    subst hg
    exact hr _ (h.row t n hn hq).2), (h.row t n hn hq).2⟩, h.inj, h.sR, h.mR, fun j hj => Nat.lt_of_lt_of_le (h.lt j hj) hk.size, h.ok, h.t1, h.t2, h.s1, h.s2, h.mm⟩
theorem Sp.sg (h : Sp w sb R T S M L mb g cap) : Sg w sb R T S M L := ⟨_, _, _, h⟩
theorem Sg.keep (h : Sg w sb R T S M L) {rs : List Nat} (hk : Kp w w' rs) (hr : ∀ k ∈ R, k ∉ rs) : Sg w' sb R T S M L := by
  obtain ⟨mb, g, cap, h⟩ := h
  exact ⟨mb, g, cap, h.keep hk hr⟩
theorem Sg.same (h : Sg w sb R T S M L) (hk : Kp w w' []) : Sg w' sb R T S M L := h.keep hk (by simp)
theorem Sg.ok (h : Sg w sb R T S M L) : Ok T S L := by
  obtain ⟨mb, g, cap, h⟩ := h
  exact h.ok
theorem Sg.lt (h : Sg w sb R T S M L) : ∀ k ∈ R, k < w.heap.size := by
  obtain ⟨mb, g, cap, h⟩ := h
  exact h.lt
theorem Sg.mem (h : Sg w sb R T S M L) : sb ∈ R := by
  obtain ⟨mb, g, cap, h⟩ := h
  exact h.sR
theorem Sg.bd (h : Sg w sb R T S M L) : (1 ≤ T ∧ T ≤ 16) ∧ 1 ≤ S ∧ S ≤ 32 := by
  obtain ⟨mb, g, cap, h⟩ := h
  exact ⟨⟨h.t1, h.t2⟩, h.s1, h.s2⟩
theorem Sg.mm (h : Sg w sb R T S M L) : ∀ t, M t < 4294967296 := by
  obtain ⟨mb, g, cap, h⟩ := h
  exact h.mm
theorem Sg.pp (h : Sg w sb R T S M L) (t : Nat) : pend L t < 4294967296 := h.ok.pend t
/-- What a call leaves: the same ones, with other masks, and others that are pending. -/
def To (w w' : World) (sb : Nat) (R : List Nat) (T S : Nat) (M : Nat → Nat) (L : El) : Prop := ∃ R', Sg w' sb R' T S M L ∧ Nw w R R' ∧ Kp w w' R
theorem To.stay (h : Sg w sb R T S M L) (hk : Kp w w' []) : To w w' sb R T S M L := ⟨R, h.same hk, Nw.refl _ _, hk.nil⟩
theorem To.kp (h : To w w' sb R T S M L) : Kp w w' R := by
  obtain ⟨_, _, _, h⟩ := h
  exact h
theorem To.trans {w1 w2 : World} {M1 M2 : Nat → Nat} {L1 L2 : El} (h : To w w1 sb R T S M1 L1) (h' : ∀ R1, Sg w1 sb R1 T S M1 L1 → To w1 w2 sb R1 T S M2 L2) : To w w2 sb R T S M2 L2 := by
  obtain ⟨R1, s1, n1, k1⟩ := h
  obtain ⟨R2, s2, n2, k2⟩ := h' R1 s1
  refine ⟨R2, s2, n1.trans n2 k1.size, k1.past k2 (fun k hk hl => ?_)⟩
  rcases n1 k hk with q | q
  · exact q
  · omega
theorem To.more {w2 : World} (h : To w w' sb R T S M L) (hk : Kp w' w2 []) : To w w2 sb R T S M L := h.trans fun _ s => To.stay s hk
theorem To.first {w0 : World} (hk : Kp w0 w []) (h : To w w' sb R T S M L) : To w0 w' sb R T S M L := by
  obtain ⟨R', h1, h2, h3⟩ := h
  exact ⟨R', h1, fun k hm => (h2 k hm).imp id (fun h => Nat.le_trans hk.size h), hk.nil.trans h3⟩
end
/-- None: nil, or zero ones. -/
def Zs (w : World) (p : Option Addr) : Prop := p = none ∨ ∃ zb c, p = some ⟨zb, 0, none⟩ ∧ w.heap[zb]? = some (.cells c 61 (0, 0)) ∧ c[0]? = some (.int .i64 0)
theorem Zs.keep {w w' : World} {p : Option Addr} (h : Zs w p) (hk : Kp w w' []) : Zs w' p := by
  rcases h with h | ⟨zb, c, h1, h2, h3⟩
  · exact .inl h
  · exact .inr ⟨zb, c, h1, (hk.block zb (lt_of_block h2) (by simp)).trans h2, h3⟩
set_option maxRecDepth 100000 in
theorem zero_no (w : World) (sb : Nat) (R : List Nat) (T S : Nat) (M : Nat → Nat) (L : El) (h : Sg w sb R T S M L) : Calls Try.prog 36 #[.pointer (some ⟨sb, 0, none⟩)] w fun e w' => e = .returned (.bool false) ∧ w' = w := by
  have h1 := h.bd.1.1
  obtain ⟨mb, g, cap, h⟩ := h
  have c0 := h.c.thr
  have hq : ((T : Int) == 0) = false := by simp; omega
  clear h
  go_enter Try.func36, Try.ntmps36
  go_wp2_with fail
  go_ret
  exact ⟨rfl, rfl⟩
set_option maxRecDepth 100000 in
theorem zero_yes (w : World) (p : Option Addr) (h : Zs w p) : Calls Try.prog 36 #[.pointer p] w fun e w' => e = .returned (.bool true) ∧ w' = w := by
  rcases h with rfl | ⟨zb, c, rfl, h2, h3⟩
  · go_enter Try.func36, Try.ntmps36
    go_wp2_with fail
    go_ret
    exact ⟨rfl, rfl⟩
  · have c0 : w.cell? ⟨zb, 0, none⟩ = some (.int .i64 0) := by simp [World.cell?, h2, h3]
    clear h2 h3
    go_enter Try.func36, Try.ntmps36
    go_wp2_with fail
    go_ret
    exact ⟨rfl, rfl⟩
set_option maxRecDepth 100000 in
theorem has_zero (w : World) (p : Option Addr) (t : Int) (h : Zs w p) : Calls Try.prog 39 #[.pointer p, .int .i64 t] w fun e w' => e = .returned (.bool false) ∧ w' = w := by
  have H := hid (zero_yes w p h)
  clear h
  go_enter Try.func39, Try.ntmps39
  go_wp2_with fail
  refine H.out.mono ?_
  rintro e w1 ⟨rfl, hw⟩; obtain rfl := hw.symm
  go_wp2
  go_ret
  exact ⟨rfl, rfl⟩
def inT (T : Nat) (t : Int) : Bool := decide (0 ≤ t) && decide (t < T)
theorem inT_nat (T t : Nat) : inT T t = decide (t < T) := by simp [inT]
theorem inT_yes {T : Nat} {t : Int} (h : inT T t = true) : ∃ k : Nat, t = k ∧ k < T := by
  simp [inT] at h
  exact ⟨t.toNat, by omega, by omega⟩
set_option maxRecDepth 100000 in
theorem has_any (w : World) (sb : Nat) (R : List Nat) (T S : Nat) (M : Nat → Nat) (L : El) (t : Int) (h : Sg w sb R T S M L) : Calls Try.prog 39 #[.pointer (some ⟨sb, 0, none⟩), .int .i64 t] w fun e w' => e = .returned (.bool (inT T t)) ∧ w' = w := by
  have H := hid (zero_no w sb R T S M L h)
  obtain ⟨mb, g, cap, h⟩ := h
  have c0 := h.c.thr
  clear h
  unfold inT
  by_cases h0 : 0 ≤ t
  · have d0 : decide (0 ≤ t) = true := by simpa using h0
    by_cases h1 : t < T
    · have d1 : decide (t < T) = true := by simpa using h1
      rw [d0, d1]
      go_enter Try.func39, Try.ntmps39
      go_wp2_with fail
      refine H.out.mono ?_
      rintro e w1 ⟨rfl, hw⟩; obtain rfl := hw.symm
      go_wp2
      go_ret
      exact ⟨rfl, rfl⟩
    · have d1 : decide (t < T) = false := by simpa using h1
      rw [d0, d1]
      go_enter Try.func39, Try.ntmps39
      go_wp2_with fail
      refine H.out.mono ?_
      rintro e w1 ⟨rfl, hw⟩; obtain rfl := hw.symm
      go_wp2
      go_ret
      exact ⟨rfl, rfl⟩
  · have d0 : decide (0 ≤ t) = false := by simpa using h0
    rw [d0, Bool.false_and]
    go_enter Try.func39, Try.ntmps39
    go_wp2_with fail
    refine H.out.mono ?_
    rintro e w1 ⟨rfl, hw⟩; obtain rfl := hw.symm
    go_wp2
    go_ret
    exact ⟨rfl, rfl⟩
end Go.Proofs.Ytoenipaccnpihaa
