/- A condition in memory, by the blocks that it writes; what looks at it. -/
import Derived.Test.YtpkjnjhbgjgfaaaCp
namespace Go.Proofs.Ytpkjnjhbgjgfaaa
open Go.RowKit Go.Shelf Go.Lib Go.Sort Go.Maps
attribute [local go_sem] Oper.semAt_some

/-- A condition (53), by the blocks that it writes. -/
def Cm (w : World) (cb : Nat) (R : List Nat) (m : Int) (L : List Dl) : Prop :=
  ∃ wb R0, R = cb :: R0 ∧ w.heap[cb]? = some (.cells #[.pointer (some ⟨wb, 0, none⟩), .int .i64 m] 53 (0, 0)) ∧ Wr w wb R0 L
variable {w w' : World} {cb : Nat} {R : List Nat} {m : Int} {L : List Dl}
theorem Wr.not53 {wb : Nat} {R0 : List Nat} (h : Wr w wb R0 L) : ∀ k ∈ R0, ∀ c, w.heap[k]? ≠ some (.cells c 53 (0, 0)) := by
  obtain ⟨pb, V, rfl, h⟩ := h
  intro k hk c
  obtain ⟨P, hP, -⟩ := h.mp
  obtain ⟨es, cl, hp⟩ := hP.obj
  simp only [rows, List.mem_cons, Option.mem_toList] at hk
  rcases hk with rfl | rfl | hk
  · rw [h.hh]; simp
  · rw [hp]; simp
  · obtain ⟨cur, hc⟩ := h.own hk
    rw [hc]; simp
theorem Cm.ok (h : Cm w cb R m L) : okL L := by
  obtain ⟨wb, R0, -, -, h⟩ := h
  exact h.ok
theorem Cm.lt (h : Cm w cb R m L) : ∀ k ∈ R, k < w.heap.size := by
  obtain ⟨wb, R0, rfl, hb, h⟩ := h
  intro k hk
  rcases List.mem_cons.1 hk with rfl | hk
  · exact lt_of_block hb
  · exact h.lt k hk
theorem Cm.kind (h : Cm w cb R m L) : ∀ k ∈ R, ∀ c, w.heap[k]? ≠ some (.cells c 77 (0, 0)) := by
  obtain ⟨wb, R0, rfl, hb, h⟩ := h
  intro k hk c
  rcases List.mem_cons.1 hk with rfl | hk
  · rw [hb]; simp
  · exact (h.kind k hk c).2
theorem Cm.mem (h : Cm w cb R m L) : cb ∈ R := by
  obtain ⟨wb, R0, rfl, -⟩ := h
  simp
theorem Cm.keep (h : Cm w cb R m L) {rs : List Nat} (hk : Kp w w' rs) (hr : ∀ k ∈ R, k ∉ rs) : Cm w' cb R m L := by
  have hl := h.lt
  obtain ⟨wb, R0, rfl, hb, h⟩ := h
  exact ⟨wb, R0, rfl, (hk.block cb (hl cb (by simp)) (hr cb (by simp))).trans hb, h.keep hk (fun k hm => hr k (by simp [hm]))⟩
theorem Cm.same (h : Cm w cb R m L) (hk : Kp w w' []) : Cm w' cb R m L := h.keep hk (by simp)
/-- What a call leaves: the same one, with another mutex, and others who wait. -/
def To (w w' : World) (cb : Nat) (R : List Nat) (m : Int) (L : List Dl) : Prop := ∃ R', Cm w' cb R' m L ∧ Nw w R R' ∧ Kp w w' R
theorem To.stay (h : Cm w cb R m L) (hk : Kp w w' []) : To w w' cb R m L := ⟨R, h.same hk, Nw.refl _ _, hk.nil⟩
theorem To.kp (h : To w w' cb R m L) : Kp w w' R := by
  obtain ⟨_, _, _, h⟩ := h
  exact h
theorem To.trans {w1 w2 : World} {m1 m2 : Int} {L1 L2 : List Dl} (h : To w w1 cb R m1 L1) (h' : ∀ R1, Cm w1 cb R1 m1 L1 → To w1 w2 cb R1 m2 L2) : To w w2 cb R m2 L2 := by
  obtain ⟨R1, s1, n1, k1⟩ := h
  obtain ⟨R2, s2, n2, k2⟩ := h' R1 s1
  refine ⟨R2, s2, n1.trans n2 k1.size, k1.past k2 (fun k hk hl => ?_)⟩
  rcases n1 k hk with q | q
  · exact q
  · omega
theorem To.more {w2 : World} (h : To w w' cb R m L) (hk : Kp w' w2 []) : To w w2 cb R m L := h.trans fun _ s => To.stay s hk
theorem To.first {w0 : World} (hk : Kp w0 w []) (h : To w w' cb R m L) : To w0 w' cb R m L := by
  obtain ⟨R', h1, h2, h3⟩ := h
  exact ⟨R', h1, fun k hm => (h2 k hm).imp id (fun h => Nat.le_trans hk.size h), hk.nil.trans h3⟩
/-- Who waits has changed. -/
theorem to_of_wr {wb : Nat} {R0 R1 : List Nat} {L' : List Dl} (hb : w.heap[cb]? = some (.cells #[.pointer (some ⟨wb, 0, none⟩), .int .i64 m] 53 (0, 0))) (h0 : Wr w wb R0 L) (h1 : Wr w' wb R1 L') (hn : Nw w R0 R1) (hk : Kp w w' R0) : To w w' cb (cb :: R0) m L' := by
  refine ⟨cb :: R1, ⟨wb, R1, rfl, (hk.block cb (lt_of_block hb) (fun hm => h0.not53 cb hm _ hb)).trans hb, h1⟩, fun k hm => ?_, hk.mono (fun k hm _ => by simp [hm])⟩
  rcases List.mem_cons.1 hm with rfl | hm
  · exact .inl (by simp)
  · exact (hn k hm).imp (fun q => by simp [q]) id
/-- The mutex has changed. -/
theorem to_of_set (h : Cm w cb R m L) (u : Int) : Cm (w.setCell ⟨cb, 1, none⟩ (.int .i64 u)) cb R u L ∧ Kp w (w.setCell ⟨cb, 1, none⟩ (.int .i64 u)) R := by
  have hm := h.mem
  obtain ⟨wb, R0, rfl, hb, h⟩ := h
  refine ⟨⟨wb, R0, rfl, set_two1 hb, h.keep (Kp.setCell w _ _) (fun k hk e => ?_)⟩, (Kp.setCell w _ _).mono (fun k hk _ => ?_)⟩
  · simp at e
    subst e
    exact h.not53 k hk _ hb
  · simp at hk
    simp [hk]
/-- None: nil, or a zero one. -/
def Zc (w : World) (p : Option Addr) : Prop := p = none ∨ ∃ b, p = some ⟨b, 0, none⟩ ∧ w.heap[b]? = some (.cells #[.pointer none, .int .i64 0] 53 (0, 0))
theorem Zc.keep {p : Option Addr} (h : Zc w p) (hk : Kp w w' []) : Zc w' p := by
  rcases h with h | ⟨b, e, h⟩
  · exact .inl h
  · exact .inr ⟨b, e, (hk.block b (lt_of_block h) (by simp)).trans h⟩
/-- One that may not be there. -/
def Cv (w : World) (p : Option Addr) (R : List Nat) (m : Int) (L : List Dl) : Prop := (∃ cb, p = some ⟨cb, 0, none⟩ ∧ Cm w cb R m L) ∨ (Zc w p ∧ R = [] ∧ m = 0 ∧ L = [])
theorem Cv.same {p : Option Addr} (h : Cv w p R m L) (hk : Kp w w' []) : Cv w' p R m L := by
  rcases h with ⟨cb, e, h⟩ | ⟨h, e⟩
  · exact .inl ⟨cb, e, h.same hk⟩
  · exact .inr ⟨h.keep hk, e⟩
theorem Cm.cv (h : Cm w cb R m L) : Cv w (some ⟨cb, 0, none⟩) R m L := .inl ⟨cb, rfl, h⟩
theorem Zc.cv {p : Option Addr} (h : Zc w p) : Cv w p [] 0 [] := .inr ⟨h, rfl, rfl, rfl⟩
theorem Cv.ok {p : Option Addr} (h : Cv w p R m L) : okL L := by
  rcases h with ⟨cb, -, h⟩ | ⟨-, -, -, rfl⟩
  · exact h.ok
  · exact okL.nil
theorem z_none (w : World) : Zw w none := .inl rfl
theorem field51 (x y : Value) (W : World) : (Instr.field 51 (.agg #[x, y]) 0).run Try.prog W = .ok x W := by kernel_rfl
/-- What now hands out. -/
def At (q : Option Addr) (m : Int) : Value := .agg #[.pointer q, .int .i64 m]
theorem size51 (a b : Value) : (Try.prog.info? 51).map (·.size) = some (#[a, b] : Array Value).size := by kernel_rfl
set_option maxRecDepth 100000 in
theorem now_yes (w : World) (cb : Nat) (q : Option Addr) (m : Int) (hb : w.heap[cb]? = some (.cells #[.pointer q, .int .i64 m] 53 (0, 0))) : Calls Try.prog 37 #[.pointer (some ⟨cb, 0, none⟩)] w fun e w' => e = .returned (At q m) ∧ Kp w w' [] := by
  have ka := Kp.alloc w (.cells #[.pointer none, .int .i64 0] 51) []
  have c0 := cell_two0 hb
  have c1 := cell_two1 hb
  have d0 := ka.cell c0 (by simp)
  have d1 := ka.cell c1 (by simp)
  have hlt := lt_of_block hb
  clear ka hb
  unfold At
  go_enter Try.func37, Try.ntmps37
  go_wp2
  refine bodyPost_ret (results_cell_row rfl _ _ w.heap.size 51 #[.pointer q, .int .i64 m] (0, 0) _ rfl (heap_alloc_new w _) Try.underlying51 rfl (size51 _ _)) rfl ?_
  exact ⟨rfl, Kp.alloc _ _ _⟩
set_option maxRecDepth 100000 in
theorem now_nil (w : World) : Calls Try.prog 37 #[.pointer none] w fun e w' => e = .returned (At none 0) ∧ Kp w w' [] := by
  unfold At
  go_enter Try.func37, Try.ntmps37
  go_wp2
  refine bodyPost_ret (results_cell_row rfl _ _ w.heap.size 51 #[.pointer none, .int .i64 0] (0, 0) _ rfl (heap_alloc_new w _) Try.underlying51 rfl (size51 _ _)) rfl ?_
  exact ⟨rfl, Kp.alloc _ _ _⟩
theorem now_zero (w : World) (p : Option Addr) (h : Zc w p) : Calls Try.prog 37 #[.pointer p] w fun e w' => e = .returned (At none 0) ∧ Kp w w' [] := by
  rcases h with rfl | ⟨b, rfl, hb⟩
  · exact now_nil w
  · exact now_yes w b none 0 hb
/-- Who waits, as a pointer that may be nil. -/
theorem who (w : World) (p : Option Addr) (R : List Nat) (m : Int) (L : List Dl) (h : Cv w p R m L) : ∃ q, (∀ z, Kp w z [] → Calls Try.prog 37 #[.pointer p] z (fun e w' => e = .returned (At q m) ∧ Kp z w' [])) ∧ Vw w q L ∧ ((q = none ∧ Zc w p ∧ R = [] ∧ m = 0 ∧ L = []) ∨ ∃ wb R0 cb, q = some ⟨wb, 0, none⟩ ∧ p = some ⟨cb, 0, none⟩ ∧ R = cb :: R0 ∧ Wr w wb R0 L ∧ w.heap[cb]? = some (.cells #[.pointer (some ⟨wb, 0, none⟩), .int .i64 m] 53 (0, 0))) := by
  rcases h with ⟨cb, rfl, h⟩ | ⟨h, rfl, rfl, rfl⟩
  · obtain ⟨wb, R0, e, hb, hw⟩ := h
    exact ⟨_, fun z hk => now_yes z cb _ m ((hk.block cb (lt_of_block hb) (by simp)).trans hb), hw.vw, .inr ⟨wb, R0, cb, rfl, rfl, e, hw, hb⟩⟩
  · exact ⟨none, fun z hk => now_zero z p (h.keep hk), (z_none w).vw, .inl ⟨rfl, h, rfl, rfl, rfl⟩⟩
theorem fieldAt (q : Option Addr) (m : Int) (W : World) : (Instr.field 51 (At q m) 0).run Try.prog W = .ok (.pointer q) W := by kernel_rfl
set_option maxRecDepth 100000 in
/-- Len. -/
theorem clen (w : World) (p : Option Addr) (R : List Nat) (m : Int) (L : List Dl) (h : Cv w p R m L) : Calls Try.prog 18 #[.pointer p] w fun e w' => e = .returned (.int .i64 L.length) ∧ Kp w w' [] := by
  obtain ⟨q, hq, hv, -⟩ := who w p R m L h
  have HQ := hid hq
  have HL := hid (fun z (hk : Kp w z []) => len_any z q L (hv.keep hk))
  have hfd := fieldAt q m
  generalize L.length = N at HL ⊢
  clear h hq hv
  go_enter Try.func18, Try.ntmps18
  go_wp2_with fail
  refine (HQ.out _ (Kp.refl _ _)).mono ?_
  rintro e w1 ⟨rfl, hk⟩
  have HK := hid hk
  clear hk
  go_wp2_with fail
  refine (HL.out _ HK.out).mono ?_
  rintro e w2 ⟨rfl, hw⟩; obtain rfl := hw.symm
  go_wp2
  go_ret
  exact ⟨rfl, HK.out⟩
set_option maxRecDepth 100000 in
/-- List. -/
theorem clist (w : World) (p : Option Addr) (R : List Nat) (m : Int) (L : List Dl) (h : Cv w p R m L) : Calls Try.prog 14 #[.pointer p] w fun e w' => ∃ x, e = .returned x ∧ Ns w' w.heap.size x ((ordL L).map (·.1)) ∧ Kp w w' [] := by
  obtain ⟨q, hq, hv, -⟩ := who w p R m L h
  have HQ := hid hq
  have HL := hid (fun z (hk : Kp w z []) => list_any z q L (hv.keep hk))
  have hfd := fieldAt q m
  clear h hq hv
  go_enter Try.func14, Try.ntmps14
  go_wp2_with fail
  refine (HQ.out _ (Kp.refl _ _)).mono ?_
  rintro e w1 ⟨rfl, hk⟩
  have HK := hid hk
  clear hk
  go_wp2_with fail
  refine (HL.out _ HK.out).mono ?_
  rintro e w2 ⟨x, rfl, hx, hk⟩
  have HX := hid (And.intro (hx.low HK.out.size) (HK.out.trans hk))
  clear hx hk
  go_wp2
  go_ret
  exact ⟨x, rfl, HX.out.1, HX.out.2⟩
set_option maxRecDepth 100000 in
/-- Has. -/
theorem chas (w : World) (p : Option Addr) (R : List Nat) (m : Int) (L : List Dl) (t : Int) (h : Cv w p R m L) (ht : i64 t) : Calls Try.prog 34 #[.pointer p, .int .i64 t] w fun e w' => e = .returned (.bool (hasP L t)) ∧ Kp w w' [] := by
  obtain ⟨q, hq, hv, -⟩ := who w p R m L h
  have HQ := hid hq
  have HL := hid (fun z (hk : Kp w z []) => has_any z q L t (hv.keep hk) ht)
  have hfd := fieldAt q m
  generalize hasP L t = B at HL ⊢
  clear h hq hv ht
  go_enter Try.func34, Try.ntmps34
  go_wp2_with fail
  refine (HQ.out _ (Kp.refl _ _)).mono ?_
  rintro e w1 ⟨rfl, hk⟩
  have HK := hid hk
  clear hk
  go_wp2_with fail
  refine (HL.out _ HK.out).mono ?_
  rintro e w2 ⟨rfl, hw⟩; obtain rfl := hw.symm
  go_wp2
  go_ret
  exact ⟨rfl, HK.out⟩
set_option maxRecDepth 100000 in
/-- isZero. -/
theorem czero (w : World) (p : Option Addr) (R : List Nat) (m : Int) (L : List Dl) (h : Cv w p R m L) : Calls Try.prog 52 #[.pointer p] w fun e w' => e = .returned (.bool R.isEmpty) ∧ Kp w w' [] := by
  obtain ⟨q, hq, -, ho⟩ := who w p R m L h
  have HQ := hid hq
  have hfd := fieldAt q m
  have he : R.isEmpty = q.isNone := by
    rcases ho with ⟨rfl, -, rfl, -⟩ | ⟨wb, R0, cb, rfl, -, rfl, -⟩ <;> rfl
  rw [he]
  clear h hq ho he
  cases q with
  | none =>
    go_enter Try.func52, Try.ntmps52
    go_wp2_with fail
    refine (HQ.out _ (Kp.refl _ _)).mono ?_
    rintro e w1 ⟨rfl, hk⟩
    have HK := hid hk
    clear hk
    go_wp2
    go_ret
    exact ⟨rfl, HK.out⟩
  | some a =>
    go_enter Try.func52, Try.ntmps52
    go_wp2_with fail
    refine (HQ.out _ (Kp.refl _ _)).mono ?_
    rintro e w1 ⟨rfl, hk⟩
    have HK := hid hk
    clear hk
    go_wp2
    go_ret
    exact ⟨rfl, HK.out⟩
set_option maxRecDepth 100000 in
/-- Mutex. -/
theorem cmutex (w : World) (p : Option Addr) (R : List Nat) (m : Int) (L : List Dl) (h : Cv w p R m L) : Calls Try.prog 15 #[.pointer p] w fun e w' => e = .returned (.tuple #[.int .i64 (muT m L), .bool (muB L)]) ∧ Kp w w' [] := by
  have HL := hid (clen w p R m L h)
  cases hL : L with
  | nil =>
    rw [hL] at HL
    rw [show muT m [] = 0 from rfl, show muB [] = false from rfl]
    simp only [List.length_nil] at HL
    clear h hL
    go_enter Try.func15, Try.ntmps15
    go_wp2_with fail
    refine HL.out.mono ?_
    rintro e w1 ⟨rfl, hk⟩
    have HK := hid hk
    clear hk
    go_wp2
    go_ret2
    exact ⟨rfl, HK.out⟩
  | cons x Z =>
    rw [hL] at HL
    rw [show muT m (x :: Z) = m from rfl, show muB (x :: Z) = true from rfl]
    obtain ⟨cb, rfl, wb, R0, -, hb, -⟩ : ∃ cb, p = some ⟨cb, 0, none⟩ ∧ Cm w cb R m L := by
      rcases h with h | ⟨-, -, -, h⟩
      · exact h
      · rw [hL] at h; cases h
    have c1 := cell_two1 hb
    have CC := hid (fun (z : World) (hk : Kp w z []) => hk.cell c1 (by simp))
    have hz : (((x :: Z).length : Int) == 0) = false := by simp; omega
    generalize (x :: Z).length = N at HL hz
    clear h hL hb c1
    go_enter Try.func15, Try.ntmps15
    go_wp2_with fail
    refine HL.out.mono ?_
    rintro e w1 ⟨rfl, hk⟩
    have HK := hid hk
    have d1 := CC.out w1 hk
    clear hk
    go_wp2
    go_ret2
    exact ⟨rfl, HK.out⟩
set_option maxRecDepth 100000 in
/-- Leave. -/
theorem cleave (w : World) (cb : Nat) (R : List Nat) (m : Int) (L : List Dl) (t : Int) (h : Cm w cb R m L) : Calls Try.prog 22 #[.pointer (some ⟨cb, 0, none⟩), .int .i64 t] w fun e w' => e = .returned (.int .i64 (lvE L t)) ∧ To w w' cb R m (lvL L t) := by
  have HC := hid h
  obtain ⟨wb, R0, rfl, hb, hw⟩ := h
  have HQ := hid (now_yes w cb _ m hb)
  have HL := hid (fun z (hk : Kp w z []) => (hw.same hk).lv t)
  have HT := hid (fun (z w' : World) (hz : Kp w z []) (R1 : List Nat) (h1 : Wr w' wb R1 (lvL L t)) (hn : Nw z R0 R1) (hk : Kp z w' R0) => To.first hz (to_of_wr ((hz.block cb (lt_of_block hb) (by simp)).trans hb) (hw.same hz) h1 hn hk))
  have hfd := fieldAt (some ⟨wb, 0, none⟩) m
  generalize lvE L t = E at HL ⊢
  clear hb hw
  go_enter Try.func22, Try.ntmps22
  go_wp2_with fail
  refine HQ.out.mono ?_
  rintro e w1 ⟨rfl, hk⟩
  have HK := hid hk
  clear hk
  go_wp2_with fail
  refine (HL.out _ HK.out).mono ?_
  rintro e w2 ⟨rfl, R1, h1, hn, hk⟩
  have HX := hid (HT.out w1 w2 HK.out R1 h1 hn hk)
  clear h1 hn hk
  go_wp2
  go_ret
  exact ⟨rfl, HX.out⟩
set_option maxRecDepth 100000 in
/-- Change. -/
theorem cchange (w : World) (cb : Nat) (R : List Nat) (m : Int) (L : List Dl) (t p : Int) (h : Cm w cb R m L) : Calls Try.prog 23 #[.pointer (some ⟨cb, 0, none⟩), .int .i64 t, .int .i64 p] w fun e w' => e = .returned (.int .i64 (chgE L t p)) ∧ To w w' cb R m (chgL L t p) := by
  have HC := hid h
  obtain ⟨wb, R0, rfl, hb, hw⟩ := h
  have HQ := hid (now_yes w cb _ m hb)
  have HL := hid (fun z (hk : Kp w z []) => (hw.same hk).chg t p)
  have HT := hid (fun (z w' : World) (hz : Kp w z []) (R1 : List Nat) (h1 : Wr w' wb R1 (chgL L t p)) (hn : Nw z R0 R1) (hk : Kp z w' R0) => To.first hz (to_of_wr ((hz.block cb (lt_of_block hb) (by simp)).trans hb) (hw.same hz) h1 hn hk))
  have hfd := fieldAt (some ⟨wb, 0, none⟩) m
  generalize chgE L t p = E at HL ⊢
  clear hb hw
  go_enter Try.func23, Try.ntmps23
  go_wp2_with fail
  refine HQ.out.mono ?_
  rintro e w1 ⟨rfl, hk⟩
  have HK := hid hk
  clear hk
  go_wp2_with fail
  refine (HL.out _ HK.out).mono ?_
  rintro e w2 ⟨rfl, R1, h1, hn, hk⟩
  have HX := hid (HT.out w1 w2 HK.out R1 h1 hn hk)
  clear h1 hn hk
  go_wp2
  go_ret
  exact ⟨rfl, HX.out⟩
set_option maxRecDepth 100000 in
theorem cleave_no (w : World) (p : Option Addr) (t : Int) (h : Zc w p) : Calls Try.prog 22 #[.pointer p, .int .i64 t] w fun e w' => e = .returned (.int .i64 1) ∧ Kp w w' [] := by
  have HQ := hid (now_zero w p h)
  have hfd := fieldAt none 0
  clear h
  go_enter Try.func22, Try.ntmps22
  go_wp2_with fail
  refine HQ.out.mono ?_
  rintro e w1 ⟨rfl, hk⟩
  have HK := hid hk
  clear hk
  go_wp2_with fail
  refine (zlv w1 none t (z_none w1)).mono ?_
  rintro e w2 ⟨rfl, hw⟩; obtain rfl := hw.symm
  go_wp2
  go_ret
  exact ⟨rfl, HK.out⟩
set_option maxRecDepth 100000 in
theorem cchange_no (w : World) (p : Option Addr) (t q : Int) (h : Zc w p) : Calls Try.prog 23 #[.pointer p, .int .i64 t, .int .i64 q] w fun e w' => e = .returned (.int .i64 1) ∧ Kp w w' [] := by
  have HQ := hid (now_zero w p h)
  have hfd := fieldAt none 0
  clear h
  go_enter Try.func23, Try.ntmps23
  go_wp2_with fail
  refine HQ.out.mono ?_
  rintro e w1 ⟨rfl, hk⟩
  have HK := hid hk
  clear hk
  go_wp2_with fail
  refine (zchg w1 none t q (z_none w1)).mono ?_
  rintro e w2 ⟨rfl, hw⟩; obtain rfl := hw.symm
  go_wp2
  go_ret
  exact ⟨rfl, HK.out⟩
end Go.Proofs.Ytpkjnjhbgjgfaaa
