/- Semaphores and barriers in memory: who waits, and a number. What both have. -/
import Derived.Test.YtpkaeanagdhmiaaWr
namespace Go.Proofs.Ytpkaeanagdhmiaa
open Go.RowKit Go.Shelf Go.Lib Go.Sort Go.Maps
attribute [local go_sem] Oper.semAt_some

/-- A semaphore (74) or a barrier (76), by the blocks that it writes. -/
def Sm (T : Nat) (w : World) (sb : Nat) (R : List Nat) (v : Int) (L : List Dl) : Prop :=
  (T = 74 ∨ T = 76) ∧ ∃ wb R0, R = sb :: R0 ∧ w.heap[sb]? = some (.cells #[.pointer (some ⟨wb, 0, none⟩), .int .i64 v] T (0, 0)) ∧ Wr w wb R0 L
variable {T : Nat} {w w' : World} {sb : Nat} {R : List Nat} {v : Int} {L : List Dl}
theorem Wr.notT {wb : Nat} {R0 : List Nat} (h : Wr w wb R0 L) (hT : T = 74 ∨ T = 76) : ∀ k ∈ R0, ∀ c, w.heap[k]? ≠ some (.cells c T (0, 0)) := by
  obtain ⟨pb, V, rfl, h⟩ := h
  intro k hk c
  obtain ⟨P, hP, -⟩ := h.mp
  obtain ⟨es, cl, hp⟩ := hP.obj
  simp only [rows, List.mem_cons, Option.mem_toList] at hk
  rcases hk with rfl | rfl | hk
  · rw [h.hh]; rcases hT with rfl | rfl <;> simp
  · rw [hp]; simp
  · obtain ⟨cur, hc⟩ := h.own hk
    rw [hc]; rcases hT with rfl | rfl <;> simp
theorem Sm.ok (h : Sm T w sb R v L) : okL L := by
  obtain ⟨-, wb, R0, -, -, h⟩ := h
  exact h.ok
theorem Sm.lt (h : Sm T w sb R v L) : ∀ k ∈ R, k < w.heap.size := by
  obtain ⟨-, wb, R0, rfl, hb, h⟩ := h
  intro k hk
  rcases List.mem_cons.1 hk with rfl | hk
  · exact lt_of_block hb
  · exact h.lt k hk
theorem Sm.kind (h : Sm T w sb R v L) : ∀ k ∈ R, ∀ c, w.heap[k]? ≠ some (.cells c 87 (0, 0)) := by
  obtain ⟨hT, wb, R0, rfl, hb, h⟩ := h
  intro k hk c
  rcases List.mem_cons.1 hk with rfl | hk
  · rw [hb]; rcases hT with rfl | rfl <;> simp
  · exact (h.kind k hk c).2
theorem Sm.mem (h : Sm T w sb R v L) : sb ∈ R := by
  obtain ⟨hT, wb, R0, rfl, -⟩ := h
  simp
theorem Sm.keep (h : Sm T w sb R v L) {rs : List Nat} (hk : Kp w w' rs) (hr : ∀ k ∈ R, k ∉ rs) : Sm T w' sb R v L := by
  have hl := h.lt
  obtain ⟨hT, wb, R0, rfl, hb, h⟩ := h
  exact ⟨hT, wb, R0, rfl, (hk.block sb (hl sb (by simp)) (hr sb (by simp))).trans hb, h.keep hk (fun k hm => hr k (by simp [hm]))⟩
theorem Sm.same (h : Sm T w sb R v L) (hk : Kp w w' []) : Sm T w' sb R v L := h.keep hk (by simp)
/-- What a call leaves: the same one, with another number, and others who wait. -/
def To (T : Nat) (w w' : World) (sb : Nat) (R : List Nat) (v : Int) (L : List Dl) : Prop := ∃ R', Sm T w' sb R' v L ∧ Nw w R R' ∧ Kp w w' R
theorem To.stay (h : Sm T w sb R v L) (hk : Kp w w' []) : To T w w' sb R v L := ⟨R, h.same hk, Nw.refl _ _, hk.nil⟩
theorem To.trans {w1 w2 : World} {v1 v2 : Int} {L1 L2 : List Dl} (h : To T w w1 sb R v1 L1) (h' : ∀ R1, Sm T w1 sb R1 v1 L1 → To T w1 w2 sb R1 v2 L2) : To T w w2 sb R v2 L2 := by
  obtain ⟨R1, s1, n1, k1⟩ := h
  obtain ⟨R2, s2, n2, k2⟩ := h' R1 s1
  refine ⟨R2, s2, n1.trans n2 k1.size, k1.past k2 (fun k hk hl => ?_)⟩
  rcases n1 k hk with q | q
  · exact q
  · omega
theorem To.more {w2 : World} (h : To T w w' sb R v L) (hk : Kp w' w2 []) : To T w w2 sb R v L := h.trans fun _ s => To.stay s hk
/-- Who waits has changed. -/
theorem to_of_wr {wb : Nat} {R0 R1 : List Nat} {L' : List Dl} (hT : T = 74 ∨ T = 76) (hb : w.heap[sb]? = some (.cells #[.pointer (some ⟨wb, 0, none⟩), .int .i64 v] T (0, 0))) (h0 : Wr w wb R0 L) (h1 : Wr w' wb R1 L') (hn : Nw w R0 R1) (hk : Kp w w' R0) : To T w w' sb (sb :: R0) v L' := by
  refine ⟨sb :: R1, ⟨hT, wb, R1, rfl, (hk.block sb (lt_of_block hb) (fun hm => h0.notT hT sb hm _ hb)).trans hb, h1⟩, fun k hm => ?_, hk.mono (fun k hm _ => by simp [hm])⟩
  rcases List.mem_cons.1 hm with rfl | hm
  · exact .inl (by simp)
  · exact (hn k hm).imp (fun q => by simp [q]) id
/-- The number has changed. -/
theorem to_of_set (h : Sm T w sb R v L) (u : Int) : To T w (w.setCell ⟨sb, 1, none⟩ (.int .i64 u)) sb R u L := by
  have hm := h.mem
  obtain ⟨hT, wb, R0, rfl, hb, h⟩ := h
  refine ⟨sb :: R0, ⟨hT, wb, R0, rfl, set_two1 hb, h.keep (Kp.setCell w _ _) (fun k hk e => ?_)⟩, Nw.refl _ _, (Kp.setCell w _ _).mono (fun k hk _ => ?_)⟩
  · simp at e
    subst e
    exact h.notT hT k hk _ hb
  · simp at hk
    simp [hk]
/-- None: nil, or a zero one. -/
def Zs (T : Nat) (w : World) (p : Option Addr) : Prop := p = none ∨ ∃ b, p = some ⟨b, 0, none⟩ ∧ w.heap[b]? = some (.cells #[.pointer none, .int .i64 0] T (0, 0))
theorem Zs.keep {p : Option Addr} (h : Zs T w p) (hk : Kp w w' []) : Zs T w' p := by
  rcases h with h | ⟨b, e, h⟩
  · exact .inl h
  · exact .inr ⟨b, e, (hk.block b (lt_of_block h) (by simp)).trans h⟩
/-- One that may not be there: its number, who waits. -/
def Sv (T : Nat) (w : World) (p : Option Addr) (R : List Nat) (v : Int) (L : List Dl) : Prop := (∃ sb, p = some ⟨sb, 0, none⟩ ∧ Sm T w sb R v L) ∨ (Zs T w p ∧ R = [] ∧ v = 0 ∧ L = [])
theorem Sv.keep {p : Option Addr} (h : Sv T w p R v L) (hk : Kp w w' []) : Sv T w' p R v L := by
  rcases h with ⟨sb, e, h⟩ | ⟨h, e⟩
  · exact .inl ⟨sb, e, h.same hk⟩
  · exact .inr ⟨h.keep hk, e⟩
theorem Sm.sv (h : Sm T w sb R v L) : Sv T w (some ⟨sb, 0, none⟩) R v L := .inl ⟨sb, rfl, h⟩
theorem Zs.sv {p : Option Addr} (h : Zs T w p) : Sv T w p [] 0 [] := .inr ⟨h, rfl, rfl, rfl⟩
theorem z_none (w : World) : Zw w none := .inl rfl
set_option maxRecDepth 100000 in
/-- waits.Same, of none and a list. -/
theorem zsame_left (w : World) (wb pb : Nat) (V : Value) (L : List Dl) (p : Option Addr) (h1 : Wt w wb pb V L) (h2 : Zw w p) :
    Calls Try.prog 51 #[.pointer p, .pointer (some ⟨wb, 0, none⟩)] w fun e w' => e = .returned (.bool false) ∧ w' = w := by
  have H1 := hid h1
  have H2 := hid h2
  clear h1 h2
  go_enter Try.func51, Try.ntmps51
  go_wp2_with fail
  refine (zero_yes _ p H2.out).mono ?_
  rintro e w2 ⟨rfl, rfl⟩
  go_wp2_with fail
  refine (zero_yes _ p H2.out).mono ?_
  rintro e w2 ⟨rfl, rfl⟩
  go_wp2_with fail
  refine (zero_no _ wb pb V L H1.out).mono ?_
  rintro e w3 ⟨rfl, rfl⟩
  go_wp2
  go_ret
  exact ⟨rfl, rfl⟩
set_option maxRecDepth 100000 in
/-- refusal: why a thread may not come. -/
theorem refusal_any (w : World) (wb : Nat) (R : List Nat) (L : List Dl) (t p : Int) (h : Wr w wb R L) : Calls Try.prog 69 #[.pointer (some ⟨wb, 0, none⟩), .int .i64 t, .int .i64 p] w fun e w' => e = .returned (.int .i64 (putE L t p)) ∧ w' = w := by
  have hp := fun (ht : i64 t) => has_any w (some ⟨wb, 0, none⟩) L t h.vw ht
  clear h
  by_cases h0 : t < 0
  · have e : putE L t p = 2 := by unfold putE; rw [if_neg]; simp [mayT]; omega
    rw [e]
    clear e hp
    go_enter Try.func69, Try.ntmps69
    go_wp2
    go_ret
    exact ⟨rfl, rfl⟩
  by_cases h1 : 16 ≤ t
  · have e : putE L t p = 2 := by unfold putE; rw [if_neg]; simp [mayT]; omega
    rw [e]
    clear e hp
    go_enter Try.func69, Try.ntmps69
    go_wp2
    go_ret
    exact ⟨rfl, rfl⟩
  by_cases h2 : p < 1
  · have e : putE L t p = 2 := by unfold putE; rw [if_neg]; simp [mayP]; omega
    rw [e]
    clear e hp
    go_enter Try.func69, Try.ntmps69
    go_wp2
    go_ret
    exact ⟨rfl, rfl⟩
  by_cases h3 : 31 < p
  · have e : putE L t p = 2 := by unfold putE; rw [if_neg]; simp [mayP]; omega
    rw [e]
    clear e hp
    go_enter Try.func69, Try.ntmps69
    go_wp2
    go_ret
    exact ⟨rfl, rfl⟩
  have e : putE L t p = if hasP L t then 7 else 0 := by unfold putE; rw [if_pos]; simp [mayT, mayP]; omega
  rw [e]
  have HP := hid (hp ⟨by omega, by omega⟩)
  clear e hp
  cases hh : hasP L t
  all_goals rw [hh] at HP
  all_goals clear hh
  all_goals go_enter Try.func69, Try.ntmps69
  all_goals go_wp2_with (go_at_call 76; refine HP.out.mono ?_; rintro e w1 ⟨rfl, rfl⟩)
  all_goals go_ret
  all_goals exact ⟨rfl, rfl⟩
set_option maxRecDepth 100000 in
theorem refusal_nil (w : World) (t p : Int) : Calls Try.prog 69 #[.pointer none, .int .i64 t, .int .i64 p] w fun e w' => e = .returned (.int .i64 1) ∧ w' = w := by
  go_enter Try.func69, Try.ntmps69
  go_wp2
  go_ret
  exact ⟨rfl, rfl⟩
/-- waits.Same, of two that may not be there. -/
theorem wsame (w : World) (p q : Option Addr) (L M : List Dl) (hp : (p = none ∧ L = []) ∨ ∃ wb R0, p = some ⟨wb, 0, none⟩ ∧ Wr w wb R0 L) (hq : (q = none ∧ M = []) ∨ ∃ wb R0, q = some ⟨wb, 0, none⟩ ∧ Wr w wb R0 M) : Calls Try.prog 51 #[.pointer p, .pointer q] w fun e w' => e = .returned (.bool (decide (p.isSome = q.isSome) && decide (L = M))) ∧ Kp w w' [] := by
  rcases hp with ⟨rfl, rfl⟩ | ⟨wb, R0, rfl, h⟩ <;> rcases hq with ⟨rfl, rfl⟩ | ⟨wb2, R2, rfl, h2⟩
  · refine (same_zeros w none none (z_none w) (z_none w)).mono ?_
    rintro e w' ⟨rfl, hw⟩
    exact ⟨rfl, by first | exact hw | (rw [hw]; exact Kp.refl _ _)⟩
  · obtain ⟨pb, V, -, h2⟩ := h2
    refine (zsame_left w wb2 pb V M none h2 (z_none w)).mono ?_
    rintro e w' ⟨rfl, hw⟩
    exact ⟨by simp, by first | exact hw | (rw [hw]; exact Kp.refl _ _)⟩
  · obtain ⟨pb, V, -, h⟩ := h
    refine (same_zero w wb pb V L none h (z_none w)).mono ?_
    rintro e w' ⟨rfl, hw⟩
    exact ⟨by simp, by first | exact hw | (rw [hw]; exact Kp.refl _ _)⟩
  · refine (h.eq h2).mono ?_
    rintro e w' ⟨rfl, hk⟩
    exact ⟨by simp, hk⟩

/-! ### s -/
set_option maxRecDepth 100000 in
theorem swaiting {w : World} {sb wb : Nat} {v : Int} (hb : w.heap[sb]? = some (.cells #[.pointer (some ⟨wb, 0, none⟩), .int .i64 v] 74 (0, 0))) : Calls Try.prog 43 #[.pointer (some ⟨sb, 0, none⟩)] w fun e w' => e = .returned (.pointer (some ⟨wb, 0, none⟩)) ∧ w' = w := by
  have c0 := cell_two0 hb
  clear hb
  go_enter Try.func43, Try.ntmps43
  go_wp2
  go_ret
  exact ⟨rfl, rfl⟩
set_option maxRecDepth 100000 in
theorem swaiting_no {w : World} {p : Option Addr} (h : Zs 74 w p) : Calls Try.prog 43 #[.pointer p] w fun e w' => e = .returned (.pointer none) ∧ w' = w := by
  rcases h with rfl | ⟨b, rfl, hb⟩
  · go_enter Try.func43, Try.ntmps43
    go_wp2
    go_ret
    exact ⟨rfl, rfl⟩
  · have c0 := cell_two0 hb
    clear hb
    go_enter Try.func43, Try.ntmps43
    go_wp2
    go_ret
    exact ⟨rfl, rfl⟩
set_option maxRecDepth 100000 in
/-- Value, Count. -/
theorem sval (w : World) (p : Option Addr) (R : List Nat) (v : Int) (L : List Dl) (h : Sv 74 w p R v L) : Calls Try.prog 13 #[.pointer p] w fun e w' => e = .returned (.int .i64 v) ∧ w' = w := by
  rcases h with ⟨sb, rfl, -, wb, R0, -, hb, -⟩ | ⟨rfl | ⟨b, rfl, hb⟩, -, rfl, -⟩
  · have c1 := cell_two1 hb
    clear hb
    go_enter Try.func13, Try.ntmps13
    go_wp2
    go_ret
    exact ⟨rfl, rfl⟩
  · go_enter Try.func13, Try.ntmps13
    go_wp2
    go_ret
    exact ⟨rfl, rfl⟩
  · have c1 := cell_two1 hb
    clear hb
    go_enter Try.func13, Try.ntmps13
    go_wp2
    go_ret
    exact ⟨rfl, rfl⟩
/-- Who waits, as a pointer that may be nil. -/
theorem swho (w : World) (p : Option Addr) (R : List Nat) (v : Int) (L : List Dl) (h : Sv 74 w p R v L) : ∃ q, Calls Try.prog 43 #[.pointer p] w (fun e w' => e = .returned (.pointer q) ∧ w' = w) ∧ Vw w q L ∧ ((q = none ∧ Zs 74 w p ∧ L = []) ∨ ∃ wb R0, q = some ⟨wb, 0, none⟩ ∧ Wr w wb R0 L ∧ ∃ sb, p = some ⟨sb, 0, none⟩ ∧ Sm 74 w sb R v L ∧ R = sb :: R0 ∧ w.heap[sb]? = some (.cells #[.pointer (some ⟨wb, 0, none⟩), .int .i64 v] 74 (0, 0))) := by
  rcases h with ⟨sb, rfl, h⟩ | ⟨h, -, -, rfl⟩
  · have h' := h
    obtain ⟨-, wb, R0, e, hb, hw⟩ := h
    exact ⟨_, swaiting hb, hw.vw, .inr ⟨wb, R0, rfl, hw, sb, rfl, h', e, hb⟩⟩
  · exact ⟨none, swaiting_no h, (z_none w).vw, .inl ⟨rfl, h, rfl⟩⟩
set_option maxRecDepth 100000 in
theorem slen (w : World) (p : Option Addr) (R : List Nat) (v : Int) (L : List Dl) (h : Sv 74 w p R v L) : Calls Try.prog 14 #[.pointer p] w fun e w' => e = .returned (.int .i64 L.length) ∧ w' = w := by
  obtain ⟨q, hq, hv, -⟩ := swho w p R v L h
  have HQ := hid hq
  have HL := hid (len_any w q L hv)
  generalize L.length = N at HL ⊢
  clear h hq hv
  go_enter Try.func14, Try.ntmps14
  go_wp2_with fail
  refine HQ.out.mono ?_
  rintro e w1 ⟨rfl, hw⟩; obtain rfl := hw.symm
  go_wp2_with fail
  refine HL.out.mono ?_
  rintro e w1 ⟨rfl, rfl⟩
  go_wp2
  go_ret
  exact ⟨rfl, rfl⟩
set_option maxRecDepth 100000 in
theorem slist (w : World) (p : Option Addr) (R : List Nat) (v : Int) (L : List Dl) (h : Sv 74 w p R v L) : Calls Try.prog 16 #[.pointer p] w fun e w' => ∃ x, e = .returned x ∧ Ns w' w.heap.size x ((ordL L).map (·.1)) ∧ Kp w w' [] := by
  obtain ⟨q, hq, hv, -⟩ := swho w p R v L h
  have HQ := hid hq
  have HL := hid (list_any w q L hv)
  clear h hq hv
  go_enter Try.func16, Try.ntmps16
  go_wp2_with fail
  refine HQ.out.mono ?_
  rintro e w1 ⟨rfl, hw⟩; obtain rfl := hw.symm
  go_wp2_with fail
  refine HL.out.mono ?_
  rintro e w1 ⟨x, rfl, hx, hk⟩
  have HX := hid (And.intro hx hk)
  clear hx hk
  go_wp2
  go_ret
  exact ⟨x, rfl, HX.out.1, HX.out.2⟩
set_option maxRecDepth 100000 in
theorem sleave (w : World) (sb : Nat) (R : List Nat) (v : Int) (L : List Dl) (t : Int) (h : Sm 74 w sb R v L) : Calls Try.prog 31 #[.pointer (some ⟨sb, 0, none⟩), .int .i64 t] w fun e w' => e = .returned (.int .i64 (lvE L t)) ∧ To 74 w w' sb R v (lvL L t) := by
  obtain ⟨hT, wb, R0, rfl, hb, hw⟩ := h
  have HQ := hid (swaiting hb)
  have HL := hid (hw.lv t)
  have HT := hid (fun (w' : World) (R1 : List Nat) (h1 : Wr w' wb R1 (lvL L t)) (hn : Nw w R0 R1) (hk : Kp w w' R0) => to_of_wr hT hb hw h1 hn hk)
  generalize lvE L t = E at HL ⊢
  clear hb hw hT
  go_enter Try.func31, Try.ntmps31
  go_wp2_with fail
  refine HQ.out.mono ?_
  rintro e w1 ⟨rfl, hw⟩; obtain rfl := hw.symm
  go_wp2_with fail
  refine HL.out.mono ?_
  rintro e w1 ⟨rfl, R1, h1, hn, hk⟩
  have HX := hid (HT.out w1 R1 h1 hn hk)
  clear h1 hn hk
  go_wp2
  go_ret
  exact ⟨rfl, HX.out⟩
set_option maxRecDepth 100000 in
theorem schange (w : World) (sb : Nat) (R : List Nat) (v : Int) (L : List Dl) (t p : Int) (h : Sm 74 w sb R v L) : Calls Try.prog 32 #[.pointer (some ⟨sb, 0, none⟩), .int .i64 t, .int .i64 p] w fun e w' => e = .returned (.int .i64 (chgE L t p)) ∧ To 74 w w' sb R v (chgL L t p) := by
  obtain ⟨hT, wb, R0, rfl, hb, hw⟩ := h
  have HQ := hid (swaiting hb)
  have HL := hid (hw.chg t p)
  have HT := hid (fun (w' : World) (R1 : List Nat) (h1 : Wr w' wb R1 (chgL L t p)) (hn : Nw w R0 R1) (hk : Kp w w' R0) => to_of_wr hT hb hw h1 hn hk)
  generalize chgE L t p = E at HL ⊢
  clear hb hw hT
  go_enter Try.func32, Try.ntmps32
  go_wp2_with fail
  refine HQ.out.mono ?_
  rintro e w1 ⟨rfl, hw⟩; obtain rfl := hw.symm
  go_wp2_with fail
  refine HL.out.mono ?_
  rintro e w1 ⟨rfl, R1, h1, hn, hk⟩
  have HX := hid (HT.out w1 R1 h1 hn hk)
  clear h1 hn hk
  go_wp2
  go_ret
  exact ⟨rfl, HX.out⟩
set_option maxRecDepth 100000 in
theorem sleave_no (w : World) (p : Option Addr) (t : Int) (h : Zs 74 w p) : Calls Try.prog 31 #[.pointer p, .int .i64 t] w fun e w' => e = .returned (.int .i64 1) ∧ w' = w := by
  have HQ := hid (swaiting_no h)
  clear h
  go_enter Try.func31, Try.ntmps31
  go_wp2_with fail
  refine HQ.out.mono ?_
  rintro e w1 ⟨rfl, hw⟩; obtain rfl := hw.symm
  go_wp2_with fail
  refine (zlv w none t (z_none w)).mono ?_
  rintro e w1 ⟨rfl, rfl⟩
  go_wp2
  go_ret
  exact ⟨rfl, rfl⟩
set_option maxRecDepth 100000 in
theorem schange_no (w : World) (p : Option Addr) (t q : Int) (h : Zs 74 w p) : Calls Try.prog 32 #[.pointer p, .int .i64 t, .int .i64 q] w fun e w' => e = .returned (.int .i64 1) ∧ w' = w := by
  have HQ := hid (swaiting_no h)
  clear h
  go_enter Try.func32, Try.ntmps32
  go_wp2_with fail
  refine HQ.out.mono ?_
  rintro e w1 ⟨rfl, hw⟩; obtain rfl := hw.symm
  go_wp2_with fail
  refine (zchg w none t q (z_none w)).mono ?_
  rintro e w1 ⟨rfl, rfl⟩
  go_wp2
  go_ret
  exact ⟨rfl, rfl⟩
set_option maxRecDepth 100000 in
theorem scopy_no (w : World) (p : Option Addr) (h : Zs 74 w p) : Calls Try.prog 42 #[.pointer p] w fun e w' => e = .returned (.pointer none) ∧ w' = w := by
  have HQ := hid (swaiting_no h)
  clear h
  go_enter Try.func42, Try.ntmps42
  go_wp2_with fail
  refine HQ.out.mono ?_
  rintro e w1 ⟨rfl, hw⟩; obtain rfl := hw.symm
  go_wp2
  go_ret
  exact ⟨rfl, rfl⟩
set_option maxRecDepth 100000 in
/-- Copy: another one. -/
theorem scopy (w : World) (sb : Nat) (R : List Nat) (v : Int) (L : List Dl) (h : Sm 74 w sb R v L) : Calls Try.prog 42 #[.pointer (some ⟨sb, 0, none⟩)] w fun e w' => ∃ cb R', e = .returned (.pointer (some ⟨cb, 0, none⟩)) ∧ Sm 74 w' cb R' v L ∧ (∀ k ∈ R', w.heap.size ≤ k) ∧ Kp w w' [] := by
  obtain ⟨hT, wb, R0, rfl, hb, hw⟩ := h
  have HQ := hid (swaiting hb)
  have HW := hid hw
  have HB := hid hb
  have c0 := cell_two0 hb
  have c1 := cell_two1 hb
  have CC := hid (And.intro c0 c1)
  clear hb hw hT
  go_enter Try.func42, Try.ntmps42
  go_wp2_with fail
  refine HQ.out.mono ?_
  rintro e w1 ⟨rfl, hw⟩; obtain rfl := hw.symm
  go_wp2_with fail
  go_region_held_law (fun w1 => w1.cell? ⟨sb, 0, none⟩ = some (.pointer (some ⟨wb, 0, none⟩)) ∧ w1.cell? ⟨sb, 1, none⟩ = some (.int .i64 v))
    (first
      | exact ⟨(Kp.drew _ []).cell CC.out.1 (by simp), (Kp.drew _ []).cell CC.out.2 (by simp)⟩
      | exact ⟨((Kp.drew _ []).trans hK1).cell CC.out.1 (by simp), ((Kp.drew _ []).trans hK1).cell CC.out.2 (by simp)⟩
      | exact ⟨(((Kp.drew _ []).trans hK1).trans (Kp.alloc _ _ [])).cell CC.out.1 (by simp), (((Kp.drew _ []).trans hK1).trans (Kp.alloc _ _ [])).cell CC.out.2 (by simp)⟩)
    (first | (go_at_call 63; refine ((HW.out.same (Kp.drew _ [])).copy).mono ?_; rintro e z1 ⟨cw, RC, rfl, hC, hN1, hK1⟩) | fail)
  have ka := Kp.alloc z1 (.cells #[.pointer (some ⟨cw, 0, none⟩), .int .i64 v] 74) []
  have hs := hK1.size
  have hs0 : w.drew.heap.size = w.heap.size := rfl
  have HX := hid (show Sm 74 (z1.alloc (.cells #[.pointer (some ⟨cw, 0, none⟩), .int .i64 v] 74)) z1.heap.size (z1.heap.size :: RC) v L ∧ (∀ k ∈ z1.heap.size :: RC, w.heap.size ≤ k) ∧ Kp w (z1.alloc (.cells #[.pointer (some ⟨cw, 0, none⟩), .int .i64 v] 74)) [] from
    ⟨⟨by simp, cw, RC, rfl, heap_alloc_new z1 _, hC.same ka⟩, fun k hk => by
      rcases List.mem_cons.1 hk with rfl | hk
      · omega
      · have := hN1 k hk; omega, ((Kp.drew w []).trans hK1).trans ka⟩)
  clear hC hN1 hK1 ka hs hs0
  go_wp2
  go_ret
  exact ⟨_, _, rfl, HX.out⟩
set_option maxRecDepth 100000 in
/-- Same: both there or neither, the same number, the same who wait. -/
theorem ssame (w : World) (p q : Option Addr) (R1 R2 : List Nat) (v u : Int) (L M : List Dl) (hp : Sv 74 w p R1 v L) (hq : Sv 74 w q R2 u M) :
    Calls Try.prog 24 #[.pointer p, .pointer q] w fun e w' => e = .returned (.bool (decide (v = u) && (decide (R1.isEmpty = R2.isEmpty) && decide (L = M)))) ∧ Kp w w' [] := by
  have HP := hid (sval w p R1 v L hp)
  have HQ := hid (sval w q R2 u M hq)
  obtain ⟨p1, c1, -, o1⟩ := swho w p R1 v L hp
  obtain ⟨q1, c2, -, o2⟩ := swho w q R2 u M hq
  have HS := hid (wsame w p1 q1 L M (o1.imp (fun h => ⟨h.1, h.2.2⟩) (fun ⟨wb, R0, e, h, _⟩ => ⟨wb, R0, e, h⟩)) (o2.imp (fun h => ⟨h.1, h.2.2⟩) (fun ⟨wb, R0, e, h, _⟩ => ⟨wb, R0, e, h⟩)))
  have e1 : p1.isSome = !R1.isEmpty := by
    rcases o1 with ⟨rfl, hz, -⟩ | ⟨wb, R0, rfl, -, sb, -, -, rfl, -⟩
    · rcases hp with ⟨sb, rfl, hs⟩ | ⟨-, rfl, -⟩
      · rcases hz with h | ⟨b, e, h⟩
        · cases h
        · cases e
          obtain ⟨-, wb, R0, -, hb, -⟩ := hs
          rw [h] at hb
          simp at hb
      · rfl
    · rfl
  have e2 : q1.isSome = !R2.isEmpty := by
    rcases o2 with ⟨rfl, hz, -⟩ | ⟨wb, R0, rfl, -, sb, -, -, rfl, -⟩
    · rcases hq with ⟨sb, rfl, hs⟩ | ⟨-, rfl, -⟩
      · rcases hz with h | ⟨b, e, h⟩
        · cases h
        · cases e
          obtain ⟨-, wb, R0, -, hb, -⟩ := hs
          rw [h] at hb
          simp at hb
      · rfl
    · rfl
  have e3 : decide (p1.isSome = q1.isSome) = decide (R1.isEmpty = R2.isEmpty) := by
    rw [e1, e2]
    cases R1.isEmpty <;> cases R2.isEmpty <;> rfl
  rw [e3] at HS
  generalize (decide (R1.isEmpty = R2.isEmpty) && decide (L = M)) = S at HS ⊢
  have H1 := hid c1
  have H2 := hid c2
  clear hp hq c1 c2 o1 o2 e1 e2 e3
  by_cases hvu : v = u
  · have hd : decide (v = u) = true := by simp [hvu]
    have he : (v == u) = true := by simp [hvu]
    rw [hd, Bool.true_and]
    clear hd hvu
    go_enter Try.func24, Try.ntmps24
    go_wp2_with fail
    refine HP.out.mono ?_
    rintro e w1 ⟨rfl, hw⟩; obtain rfl := hw.symm
    go_wp2_with fail
    refine HQ.out.mono ?_
    rintro e w1 ⟨rfl, hw⟩; obtain rfl := hw.symm
    go_wp2_with fail
    refine H1.out.mono ?_
    rintro e w1 ⟨rfl, hw⟩; obtain rfl := hw.symm
    go_wp2_with fail
    refine H2.out.mono ?_
    rintro e w1 ⟨rfl, hw⟩; obtain rfl := hw.symm
    go_wp2_with fail
    refine HS.out.mono ?_
    rintro e w1 ⟨rfl, hk⟩
    have HK := hid hk
    clear hk
    go_wp2
    go_ret
    exact ⟨rfl, HK.out⟩
  · have hd : decide (v = u) = false := by simp [hvu]
    have he : (v == u) = false := by simp [hvu]
    rw [hd, Bool.false_and]
    clear hd hvu
    go_enter Try.func24, Try.ntmps24
    go_wp2_with fail
    refine HP.out.mono ?_
    rintro e w1 ⟨rfl, hw⟩; obtain rfl := hw.symm
    go_wp2_with fail
    refine HQ.out.mono ?_
    rintro e w1 ⟨rfl, hw⟩; obtain rfl := hw.symm
    go_wp2
    go_ret
    exact ⟨rfl, Kp.refl _ _⟩

/-! ### b -/
set_option maxRecDepth 100000 in
theorem bwaiting {w : World} {sb wb : Nat} {v : Int} (hb : w.heap[sb]? = some (.cells #[.pointer (some ⟨wb, 0, none⟩), .int .i64 v] 76 (0, 0))) : Calls Try.prog 50 #[.pointer (some ⟨sb, 0, none⟩)] w fun e w' => e = .returned (.pointer (some ⟨wb, 0, none⟩)) ∧ w' = w := by
  have c0 := cell_two0 hb
  clear hb
  go_enter Try.func50, Try.ntmps50
  go_wp2
  go_ret
  exact ⟨rfl, rfl⟩
set_option maxRecDepth 100000 in
theorem bwaiting_no {w : World} {p : Option Addr} (h : Zs 76 w p) : Calls Try.prog 50 #[.pointer p] w fun e w' => e = .returned (.pointer none) ∧ w' = w := by
  rcases h with rfl | ⟨b, rfl, hb⟩
  · go_enter Try.func50, Try.ntmps50
    go_wp2
    go_ret
    exact ⟨rfl, rfl⟩
  · have c0 := cell_two0 hb
    clear hb
    go_enter Try.func50, Try.ntmps50
    go_wp2
    go_ret
    exact ⟨rfl, rfl⟩
set_option maxRecDepth 100000 in
/-- Value, Count. -/
theorem bval (w : World) (p : Option Addr) (R : List Nat) (v : Int) (L : List Dl) (h : Sv 76 w p R v L) : Calls Try.prog 21 #[.pointer p] w fun e w' => e = .returned (.int .i64 v) ∧ w' = w := by
  rcases h with ⟨sb, rfl, -, wb, R0, -, hb, -⟩ | ⟨rfl | ⟨b, rfl, hb⟩, -, rfl, -⟩
  · have c1 := cell_two1 hb
    clear hb
    go_enter Try.func21, Try.ntmps21
    go_wp2
    go_ret
    exact ⟨rfl, rfl⟩
  · go_enter Try.func21, Try.ntmps21
    go_wp2
    go_ret
    exact ⟨rfl, rfl⟩
  · have c1 := cell_two1 hb
    clear hb
    go_enter Try.func21, Try.ntmps21
    go_wp2
    go_ret
    exact ⟨rfl, rfl⟩
/-- Who waits, as a pointer that may be nil. -/
theorem bwho (w : World) (p : Option Addr) (R : List Nat) (v : Int) (L : List Dl) (h : Sv 76 w p R v L) : ∃ q, Calls Try.prog 50 #[.pointer p] w (fun e w' => e = .returned (.pointer q) ∧ w' = w) ∧ Vw w q L ∧ ((q = none ∧ Zs 76 w p ∧ L = []) ∨ ∃ wb R0, q = some ⟨wb, 0, none⟩ ∧ Wr w wb R0 L ∧ ∃ sb, p = some ⟨sb, 0, none⟩ ∧ Sm 76 w sb R v L ∧ R = sb :: R0 ∧ w.heap[sb]? = some (.cells #[.pointer (some ⟨wb, 0, none⟩), .int .i64 v] 76 (0, 0))) := by
  rcases h with ⟨sb, rfl, h⟩ | ⟨h, -, -, rfl⟩
  · have h' := h
    obtain ⟨-, wb, R0, e, hb, hw⟩ := h
    exact ⟨_, bwaiting hb, hw.vw, .inr ⟨wb, R0, rfl, hw, sb, rfl, h', e, hb⟩⟩
  · exact ⟨none, bwaiting_no h, (z_none w).vw, .inl ⟨rfl, h, rfl⟩⟩
set_option maxRecDepth 100000 in
theorem blen (w : World) (p : Option Addr) (R : List Nat) (v : Int) (L : List Dl) (h : Sv 76 w p R v L) : Calls Try.prog 22 #[.pointer p] w fun e w' => e = .returned (.int .i64 L.length) ∧ w' = w := by
  obtain ⟨q, hq, hv, -⟩ := bwho w p R v L h
  have HQ := hid hq
  have HL := hid (len_any w q L hv)
  generalize L.length = N at HL ⊢
  clear h hq hv
  go_enter Try.func22, Try.ntmps22
  go_wp2_with fail
  refine HQ.out.mono ?_
  rintro e w1 ⟨rfl, hw⟩; obtain rfl := hw.symm
  go_wp2_with fail
  refine HL.out.mono ?_
  rintro e w1 ⟨rfl, rfl⟩
  go_wp2
  go_ret
  exact ⟨rfl, rfl⟩
set_option maxRecDepth 100000 in
theorem blist (w : World) (p : Option Addr) (R : List Nat) (v : Int) (L : List Dl) (h : Sv 76 w p R v L) : Calls Try.prog 23 #[.pointer p] w fun e w' => ∃ x, e = .returned x ∧ Ns w' w.heap.size x ((ordL L).map (·.1)) ∧ Kp w w' [] := by
  obtain ⟨q, hq, hv, -⟩ := bwho w p R v L h
  have HQ := hid hq
  have HL := hid (list_any w q L hv)
  clear h hq hv
  go_enter Try.func23, Try.ntmps23
  go_wp2_with fail
  refine HQ.out.mono ?_
  rintro e w1 ⟨rfl, hw⟩; obtain rfl := hw.symm
  go_wp2_with fail
  refine HL.out.mono ?_
  rintro e w1 ⟨x, rfl, hx, hk⟩
  have HX := hid (And.intro hx hk)
  clear hx hk
  go_wp2
  go_ret
  exact ⟨x, rfl, HX.out.1, HX.out.2⟩
set_option maxRecDepth 100000 in
theorem bleave (w : World) (sb : Nat) (R : List Nat) (v : Int) (L : List Dl) (t : Int) (h : Sm 76 w sb R v L) : Calls Try.prog 34 #[.pointer (some ⟨sb, 0, none⟩), .int .i64 t] w fun e w' => e = .returned (.int .i64 (lvE L t)) ∧ To 76 w w' sb R v (lvL L t) := by
  obtain ⟨hT, wb, R0, rfl, hb, hw⟩ := h
  have HQ := hid (bwaiting hb)
  have HL := hid (hw.lv t)
  have HT := hid (fun (w' : World) (R1 : List Nat) (h1 : Wr w' wb R1 (lvL L t)) (hn : Nw w R0 R1) (hk : Kp w w' R0) => to_of_wr hT hb hw h1 hn hk)
  generalize lvE L t = E at HL ⊢
  clear hb hw hT
  go_enter Try.func34, Try.ntmps34
  go_wp2_with fail
  refine HQ.out.mono ?_
  rintro e w1 ⟨rfl, hw⟩; obtain rfl := hw.symm
  go_wp2_with fail
  refine HL.out.mono ?_
  rintro e w1 ⟨rfl, R1, h1, hn, hk⟩
  have HX := hid (HT.out w1 R1 h1 hn hk)
  clear h1 hn hk
  go_wp2
  go_ret
  exact ⟨rfl, HX.out⟩
set_option maxRecDepth 100000 in
theorem bchange (w : World) (sb : Nat) (R : List Nat) (v : Int) (L : List Dl) (t p : Int) (h : Sm 76 w sb R v L) : Calls Try.prog 48 #[.pointer (some ⟨sb, 0, none⟩), .int .i64 t, .int .i64 p] w fun e w' => e = .returned (.int .i64 (chgE L t p)) ∧ To 76 w w' sb R v (chgL L t p) := by
  obtain ⟨hT, wb, R0, rfl, hb, hw⟩ := h
  have HQ := hid (bwaiting hb)
  have HL := hid (hw.chg t p)
  have HT := hid (fun (w' : World) (R1 : List Nat) (h1 : Wr w' wb R1 (chgL L t p)) (hn : Nw w R0 R1) (hk : Kp w w' R0) => to_of_wr hT hb hw h1 hn hk)
  generalize chgE L t p = E at HL ⊢
  clear hb hw hT
  go_enter Try.func48, Try.ntmps48
  go_wp2_with fail
  refine HQ.out.mono ?_
  rintro e w1 ⟨rfl, hw⟩; obtain rfl := hw.symm
  go_wp2_with fail
  refine HL.out.mono ?_
  rintro e w1 ⟨rfl, R1, h1, hn, hk⟩
  have HX := hid (HT.out w1 R1 h1 hn hk)
  clear h1 hn hk
  go_wp2
  go_ret
  exact ⟨rfl, HX.out⟩
set_option maxRecDepth 100000 in
theorem bleave_no (w : World) (p : Option Addr) (t : Int) (h : Zs 76 w p) : Calls Try.prog 34 #[.pointer p, .int .i64 t] w fun e w' => e = .returned (.int .i64 1) ∧ w' = w := by
  have HQ := hid (bwaiting_no h)
  clear h
  go_enter Try.func34, Try.ntmps34
  go_wp2_with fail
  refine HQ.out.mono ?_
  rintro e w1 ⟨rfl, hw⟩; obtain rfl := hw.symm
  go_wp2_with fail
  refine (zlv w none t (z_none w)).mono ?_
  rintro e w1 ⟨rfl, rfl⟩
  go_wp2
  go_ret
  exact ⟨rfl, rfl⟩
set_option maxRecDepth 100000 in
theorem bchange_no (w : World) (p : Option Addr) (t q : Int) (h : Zs 76 w p) : Calls Try.prog 48 #[.pointer p, .int .i64 t, .int .i64 q] w fun e w' => e = .returned (.int .i64 1) ∧ w' = w := by
  have HQ := hid (bwaiting_no h)
  clear h
  go_enter Try.func48, Try.ntmps48
  go_wp2_with fail
  refine HQ.out.mono ?_
  rintro e w1 ⟨rfl, hw⟩; obtain rfl := hw.symm
  go_wp2_with fail
  refine (zchg w none t q (z_none w)).mono ?_
  rintro e w1 ⟨rfl, rfl⟩
  go_wp2
  go_ret
  exact ⟨rfl, rfl⟩
set_option maxRecDepth 100000 in
theorem bcopy_no (w : World) (p : Option Addr) (h : Zs 76 w p) : Calls Try.prog 49 #[.pointer p] w fun e w' => e = .returned (.pointer none) ∧ w' = w := by
  have HQ := hid (bwaiting_no h)
  clear h
  go_enter Try.func49, Try.ntmps49
  go_wp2_with fail
  refine HQ.out.mono ?_
  rintro e w1 ⟨rfl, hw⟩; obtain rfl := hw.symm
  go_wp2
  go_ret
  exact ⟨rfl, rfl⟩
set_option maxRecDepth 100000 in
/-- Copy: another one. -/
theorem bcopy (w : World) (sb : Nat) (R : List Nat) (v : Int) (L : List Dl) (h : Sm 76 w sb R v L) : Calls Try.prog 49 #[.pointer (some ⟨sb, 0, none⟩)] w fun e w' => ∃ cb R', e = .returned (.pointer (some ⟨cb, 0, none⟩)) ∧ Sm 76 w' cb R' v L ∧ (∀ k ∈ R', w.heap.size ≤ k) ∧ Kp w w' [] := by
  obtain ⟨hT, wb, R0, rfl, hb, hw⟩ := h
  have HQ := hid (bwaiting hb)
  have HW := hid hw
  have HB := hid hb
  have c0 := cell_two0 hb
  have c1 := cell_two1 hb
  have CC := hid (And.intro c0 c1)
  clear hb hw hT
  go_enter Try.func49, Try.ntmps49
  go_wp2_with fail
  refine HQ.out.mono ?_
  rintro e w1 ⟨rfl, hw⟩; obtain rfl := hw.symm
  go_wp2_with fail
  go_region_held_law (fun w1 => w1.cell? ⟨sb, 0, none⟩ = some (.pointer (some ⟨wb, 0, none⟩)) ∧ w1.cell? ⟨sb, 1, none⟩ = some (.int .i64 v))
    (first
      | exact ⟨(Kp.drew _ []).cell CC.out.1 (by simp), (Kp.drew _ []).cell CC.out.2 (by simp)⟩
      | exact ⟨((Kp.drew _ []).trans hK1).cell CC.out.1 (by simp), ((Kp.drew _ []).trans hK1).cell CC.out.2 (by simp)⟩
      | exact ⟨(((Kp.drew _ []).trans hK1).trans (Kp.alloc _ _ [])).cell CC.out.1 (by simp), (((Kp.drew _ []).trans hK1).trans (Kp.alloc _ _ [])).cell CC.out.2 (by simp)⟩)
    (first | (go_at_call 63; refine ((HW.out.same (Kp.drew _ [])).copy).mono ?_; rintro e z1 ⟨cw, RC, rfl, hC, hN1, hK1⟩) | fail)
  have ka := Kp.alloc z1 (.cells #[.pointer (some ⟨cw, 0, none⟩), .int .i64 v] 76) []
  have hs := hK1.size
  have hs0 : w.drew.heap.size = w.heap.size := rfl
  have HX := hid (show Sm 76 (z1.alloc (.cells #[.pointer (some ⟨cw, 0, none⟩), .int .i64 v] 76)) z1.heap.size (z1.heap.size :: RC) v L ∧ (∀ k ∈ z1.heap.size :: RC, w.heap.size ≤ k) ∧ Kp w (z1.alloc (.cells #[.pointer (some ⟨cw, 0, none⟩), .int .i64 v] 76)) [] from
    ⟨⟨by simp, cw, RC, rfl, heap_alloc_new z1 _, hC.same ka⟩, fun k hk => by
      rcases List.mem_cons.1 hk with rfl | hk
      · omega
      · have := hN1 k hk; omega, ((Kp.drew w []).trans hK1).trans ka⟩)
  clear hC hN1 hK1 ka hs hs0
  go_wp2
  go_ret
  exact ⟨_, _, rfl, HX.out⟩
set_option maxRecDepth 100000 in
/-- Same: both there or neither, the same number, the same who wait. -/
theorem bsame (w : World) (p q : Option Addr) (R1 R2 : List Nat) (v u : Int) (L M : List Dl) (hp : Sv 76 w p R1 v L) (hq : Sv 76 w q R2 u M) :
    Calls Try.prog 26 #[.pointer p, .pointer q] w fun e w' => e = .returned (.bool (decide (v = u) && (decide (R1.isEmpty = R2.isEmpty) && decide (L = M)))) ∧ Kp w w' [] := by
  have HP := hid (bval w p R1 v L hp)
  have HQ := hid (bval w q R2 u M hq)
  obtain ⟨p1, c1, -, o1⟩ := bwho w p R1 v L hp
  obtain ⟨q1, c2, -, o2⟩ := bwho w q R2 u M hq
  have HS := hid (wsame w p1 q1 L M (o1.imp (fun h => ⟨h.1, h.2.2⟩) (fun ⟨wb, R0, e, h, _⟩ => ⟨wb, R0, e, h⟩)) (o2.imp (fun h => ⟨h.1, h.2.2⟩) (fun ⟨wb, R0, e, h, _⟩ => ⟨wb, R0, e, h⟩)))
  have e1 : p1.isSome = !R1.isEmpty := by
    rcases o1 with ⟨rfl, hz, -⟩ | ⟨wb, R0, rfl, -, sb, -, -, rfl, -⟩
    · rcases hp with ⟨sb, rfl, hs⟩ | ⟨-, rfl, -⟩
      · rcases hz with h | ⟨b, e, h⟩
        · cases h
        · cases e
          obtain ⟨-, wb, R0, -, hb, -⟩ := hs
          rw [h] at hb
          simp at hb
      · rfl
    · rfl
  have e2 : q1.isSome = !R2.isEmpty := by
    rcases o2 with ⟨rfl, hz, -⟩ | ⟨wb, R0, rfl, -, sb, -, -, rfl, -⟩
    · rcases hq with ⟨sb, rfl, hs⟩ | ⟨-, rfl, -⟩
      · rcases hz with h | ⟨b, e, h⟩
        · cases h
        · cases e
          obtain ⟨-, wb, R0, -, hb, -⟩ := hs
          rw [h] at hb
          simp at hb
      · rfl
    · rfl
  have e3 : decide (p1.isSome = q1.isSome) = decide (R1.isEmpty = R2.isEmpty) := by
    rw [e1, e2]
    cases R1.isEmpty <;> cases R2.isEmpty <;> rfl
  rw [e3] at HS
  generalize (decide (R1.isEmpty = R2.isEmpty) && decide (L = M)) = S at HS ⊢
  have H1 := hid c1
  have H2 := hid c2
  clear hp hq c1 c2 o1 o2 e1 e2 e3
  by_cases hvu : v = u
  · have hd : decide (v = u) = true := by simp [hvu]
    have he : (v == u) = true := by simp [hvu]
    rw [hd, Bool.true_and]
    clear hd hvu
    go_enter Try.func26, Try.ntmps26
    go_wp2_with fail
    refine HP.out.mono ?_
    rintro e w1 ⟨rfl, hw⟩; obtain rfl := hw.symm
    go_wp2_with fail
    refine HQ.out.mono ?_
    rintro e w1 ⟨rfl, hw⟩; obtain rfl := hw.symm
    go_wp2_with fail
    refine H1.out.mono ?_
    rintro e w1 ⟨rfl, hw⟩; obtain rfl := hw.symm
    go_wp2_with fail
    refine H2.out.mono ?_
    rintro e w1 ⟨rfl, hw⟩; obtain rfl := hw.symm
    go_wp2_with fail
    refine HS.out.mono ?_
    rintro e w1 ⟨rfl, hk⟩
    have HK := hid hk
    clear hk
    go_wp2
    go_ret
    exact ⟨rfl, HK.out⟩
  · have hd : decide (v = u) = false := by simp [hvu]
    have he : (v == u) = false := by simp [hvu]
    rw [hd, Bool.false_and]
    clear hd hvu
    go_enter Try.func26, Try.ntmps26
    go_wp2_with fail
    refine HP.out.mono ?_
    rintro e w1 ⟨rfl, hw⟩; obtain rfl := hw.symm
    go_wp2_with fail
    refine HQ.out.mono ?_
    rintro e w1 ⟨rfl, hw⟩; obtain rfl := hw.symm
    go_wp2
    go_ret
    exact ⟨rfl, Kp.refl _ _⟩
end Go.Proofs.Ytpkaeanagdhmiaa
