/- letIn, Send, Receive, Leave, Change. -/
import Derived.BigQuiet
import Derived.Deep.RegionHeldLaw
import Derived.Deep.RegionWith
import Derived.Test.YtllkopekfanfaaaTk
namespace Go.Proofs.Ytllkopekfanfaaa
open Go.RowKit Go.Shelf Go.Lib Go.Sort Go.Maps
attribute [local go_sem] Oper.semAt_some

variable {w w' : World} {qb mb a b : Nat} {V : Value} {Ra Rb R : List Nat} {M : Qs}
theorem fst_in {L : List Dl} (h : okL L) (hb : fstB L = true) : (0 ≤ fstT L ∧ fstT L < 16) ∧ hasP L (fstT L) = true := by
  have h2 : ∃ x, x ∈ L ∧ fstT L = x.1 := by
    unfold fstB at hb
    unfold fstT
    cases hz : ordL L with
    | nil => rw [hz] at hb; simp at hb
    | cons x Z => exact ⟨x, (ord_mem h).1 (by rw [hz]; simp), rfl⟩
  obtain ⟨x, hx, e⟩ := h2
  refine ⟨?_, by rw [e]; exact mem_has.2 ⟨x, hx, rfl⟩⟩
  have := (h.rng x hx).1
  rw [e]
  omega
theorem take_no {L : List Dl} (h : fstB L = false) : takeL L = L := by unfold takeL; rw [h]; rfl
theorem mv_eq (x : Int × Int) : mv x = .agg #[.int .i64 x.1, .int .i64 x.2] := rfl
theorem nk_trans {w w1 w2 : World} {R R1 R2 : List Nat} (n1 : Nw w R R1) (k1 : Kp w w1 R) (n2 : Nw w1 R1 R2) (k2 : Kp w1 w2 R1) : Nw w R R2 ∧ Kp w w2 R :=
  ⟨n1.trans n2 k1.size, k1.past k2 (fun k hk hl => by
    rcases n1 k hk with q | q
    · exact q
    · omega)⟩
set_option maxRecDepth 100000 in
set_option maxHeartbeats 1000000 in
/-- letIn. -/
theorem letIn_any (h : Qc w qb R M) (hr : (M.L.length : Int) < M.n) : Calls Try.prog 51 #[.pointer (some ⟨qb, 0, none⟩)] w fun e w' => e = .returned (.int .i64 (letT M)) ∧ To w w' qb R (letM M) := by
  obtain ⟨mb, a, b, V, Ra, Rb, rfl, h⟩ := h
  have c3 := h.c3
  have HT := hid h.wa.take
  have HS := hid (fun (z : World) (L : List Dl) (R1 : List Nat) (h1 : Wr z a R1 L) (hn : Nw w Ra R1) (hk : Kp w z Ra) => to_s h h1 hn hk)
  have HI := hid h
  unfold letT letM
  cases hb : fstB M.s with
  | false =>
    rw [take_no hb, hb] at HT
    simp only [Bool.false_eq_true, if_false]
    clear h hr
    go_enter Try.func51, Try.ntmps51
    go_wp2_with fail
    refine HT.out.mono ?_
    rintro e w1 ⟨rfl, R1, h1, hn, hk⟩
    have HX := hid (HS.out w1 _ R1 h1 hn hk)
    clear h1 hn hk
    go_wp2
    go_ret
    exact ⟨rfl, HX.out.1.to HX.out.2.1 HX.out.2.2⟩
  | true =>
    have ht := (fst_in h.wa.ok hb).1
    rw [hb] at HT
    simp only [if_true]
    obtain ⟨t, htt⟩ : ∃ t, fstT M.s = t := ⟨_, rfl⟩
    obtain ⟨m1, m2, hm⟩ : ∃ m1 m2, (M.f t).getD (0, 0) = (m1, m2) := ⟨_, _, rfl⟩
    rw [htt] at ht HT ⊢
    rw [hm]
    have HTT := hid ht
    have HR := hid hr
    have HM := hid hm
    clear h ht hr hm hb htt
    go_enter Try.func51, Try.ntmps51
    go_wp2_with fail
    refine HT.out.mono ?_
    rintro e w1 ⟨rfl, R1, h1, hn, hk⟩
    have hX := HS.out w1 _ R1 h1 hn hk
    have d2 := hX.1.c2
    have hl := hX.1.mp.look HTT.out
    rw [show ({ M with s := takeL M.s } : Qs).f t = M.f t from rfl, HM.out, mv_eq] at hl
    have HP := hid (put_any' hX.1.qc m1 m2 HR.out)
    have HX := hid hX
    clear h1 hn hk hX
    go_wp2_with fail
    refine HP.out.mono ?_
    rintro e w2 ⟨rfl, R2, q2, n2, k2⟩
    obtain ⟨mb2, a2, b2, V2, Ra2, Rb2, rfl, hi2⟩ := q2
    have d2 := hi2.c2
    obtain ⟨w3, hrun, hm3, hk3, -⟩ := hi2.mp.drop HTT.out 0
    have hF := to_map (M' := { M with L := putM M.L (m1, m2), s := takeL M.s, f := setF M.f t none }) hi2 hm3 hk3 rfl rfl rfl rfl
    have nk := nk_trans HX.out.2.1 HX.out.2.2 n2 k2
    have HF := hid (hF.1.to nk.1 (nk_trans nk.1 nk.2 (Nw.refl _ _) hF.2).2)
    clear hm3 hk3 hi2 n2 k2 hF nk
    go_wp2_with fail
    go_ret
    exact ⟨rfl, HF.out⟩
end Go.Proofs.Ytllkopekfanfaaa

/- Send. -/
namespace Go.Proofs.Ytllkopekfanfaaa
open Go.RowKit Go.Shelf Go.Lib Go.Sort Go.Maps
attribute [local go_sem] Oper.semAt_some

variable {w w' : World} {qb mb a b : Nat} {V : Value} {Ra Rb R : List Nat} {M : Qs}
theorem results_cell_tmp {fn : Func} {p q : Tmp} (h : fn.results = #[.cell p 45, .tmp q]) (tmps : Array Value) (w : World) (g : Nat) (cs : Array Value) (fr : Nat × Nat)
    (hp : tmps.getD p undef = .pointer (some ⟨g, 0, none⟩)) (hg : w.heap[g]? = some (.cells cs 45 fr)) (hi : (Try.prog.info? 45).map (·.size) = some cs.size) :
    (results fn tmps).run Try.prog w = .ok (.tuple #[.agg cs, tmps.getD q undef]) w := by
  have hp' : tmps[p]?.getD undef = .pointer (some ⟨g, 0, none⟩) := by simpa using hp
  simp [results, h, hp', asAddr, run_loadVar_row w g 45 45 cs fr _ hg Try.underlying45 rfl hi]
/-- The box of what passed. -/
def Bp (W : World) (s : Nat) (d : Bool) (a b o : Int) : Prop := W.heap[s]? = some (.cells #[.bool d, .int .i64 a, .int .i64 b, .int .i64 o] 45 (0, 0))
abbrev set4 (W : World) (s : Nat) (d : Bool) (a b o : Int) : World := (((W.setCell ⟨s, 0, none⟩ (.bool d)).setCell ⟨s, 1, none⟩ (.int .i64 a)).setCell ⟨s, 2, none⟩ (.int .i64 b)).setCell ⟨s, 3, none⟩ (.int .i64 o)
theorem Bp.keep {W W' : World} {s : Nat} {d : Bool} {a b o : Int} (h : Bp W s d a b o) {rs : List Nat} (hk : Kp W W' rs) (hr : s ∉ rs) : Bp W' s d a b o := (hk.block s (lt_of_block h) hr).trans h
theorem Bp.set {W : World} {s : Nat} {d : Bool} {a b o : Int} (h : Bp W s d a b o) (d' : Bool) (a' b' o' : Int) : Bp (set4 W s d' a' b' o') s d' a' b' o' := by
  have e0 : (W.setCell ⟨s, 0, none⟩ (.bool d')).heap[s]? = some (.cells #[.bool d', .int .i64 a, .int .i64 b, .int .i64 o] 45 (0, 0)) := by rw [heap_setCell_same W s 0 _ 45 _ h]; rfl
  have e1 : ((W.setCell ⟨s, 0, none⟩ (.bool d')).setCell ⟨s, 1, none⟩ (.int .i64 a')).heap[s]? = some (.cells #[.bool d', .int .i64 a', .int .i64 b, .int .i64 o] 45 (0, 0)) := by rw [heap_setCell_same _ s 1 _ 45 _ e0]; rfl
  have e2 : (((W.setCell ⟨s, 0, none⟩ (.bool d')).setCell ⟨s, 1, none⟩ (.int .i64 a')).setCell ⟨s, 2, none⟩ (.int .i64 b')).heap[s]? = some (.cells #[.bool d', .int .i64 a', .int .i64 b', .int .i64 o] 45 (0, 0)) := by rw [heap_setCell_same _ s 2 _ 45 _ e1]; rfl
  unfold Bp set4
  rw [heap_setCell_same _ s 3 _ 45 _ e2]
  rfl
theorem kp_set4 (W : World) (s : Nat) (d : Bool) (a b o : Int) : Kp W (set4 W s d a b o) [s] := (((Kp.setCell W ⟨s, 0, none⟩ _).trans (Kp.setCell _ ⟨s, 1, none⟩ _)).trans (Kp.setCell _ ⟨s, 2, none⟩ _)).trans (Kp.setCell _ ⟨s, 3, none⟩ _)
theorem Bp.c0 {W : World} {s : Nat} {d : Bool} {a b o : Int} (h : Bp W s d a b o) : W.cell? ⟨s, 0, none⟩ = some (.bool d) := by simp [World.cell?, show W.heap[s]? = _ from h]
theorem Bp.c1 {W : World} {s : Nat} {d : Bool} {a b o : Int} (h : Bp W s d a b o) : W.cell? ⟨s, 1, none⟩ = some (.int .i64 a) := by simp [World.cell?, show W.heap[s]? = _ from h]
theorem Bp.c2 {W : World} {s : Nat} {d : Bool} {a b o : Int} (h : Bp W s d a b o) : W.cell? ⟨s, 2, none⟩ = some (.int .i64 b) := by simp [World.cell?, show W.heap[s]? = _ from h]
theorem Bp.c3 {W : World} {s : Nat} {d : Bool} {a b o : Int} (h : Bp W s d a b o) : W.cell? ⟨s, 3, none⟩ = some (.int .i64 o) := by simp [World.cell?, show W.heap[s]? = _ from h]
theorem Bp.fr {W : World} {s : Nat} {d : Bool} {a b o : Int} (h : Bp W s d a b o) (i : Nat) : W.frozen? ⟨s, i, none⟩ = false := by simp [World.frozen?, show W.heap[s]? = _ from h]
theorem Bp.new (w : World) (o : Obj) : Bp ((w.alloc o).alloc (.cells #[.bool false, .int .i64 0, .int .i64 0, .int .i64 0] 45)) (w.heap.size + 1) false 0 0 0 := by
  have h := heap_alloc_new (w.alloc o) (.cells #[.bool false, .int .i64 0, .int .i64 0, .int .i64 0] 45)
  simpa [Bp] using h
theorem size45 (a b c d : Value) : (Try.prog.info? 45).map (·.size) = some (#[a, b, c, d] : Array Value).size := by kernel_rfl
theorem passed_zero : passed false (0, 0) 0 = .agg #[.bool false, .int .i64 0, .int .i64 0, .int .i64 0] := rfl
set_option maxRecDepth 100000 in
theorem send_no (w : World) (p : Option Addr) (t pr m1 m2 : Int) (h : Zq w p) : Calls Try.prog 15 #[.pointer p, .int .i64 t, .int .i64 pr, .agg #[.int .i64 m1, .int .i64 m2]] w fun e w' => e = .returned (.tuple #[passed false (0, 0) 0, .int .i64 1]) ∧ Kp w w' [] := by
  have k0 := (Kp.alloc w (.cells #[.int .i64 m1, .int .i64 m2] 34) []).trans (Kp.alloc _ (.cells #[.bool false, .int .i64 0, .int .i64 0, .int .i64 0] 45) [])
  have b0 := (Bm.new w (m1, m2)).keep (Kp.alloc _ (.cells #[.bool false, .int .i64 0, .int .i64 0, .int .i64 0] 45) []) (by simp)
  have p0 := hid (Bp.new w (.cells #[.int .i64 m1, .int .i64 m2] 34))
  have HR := hid (fun (z : World) (hk : Kp w z []) (m : Bool) => refusal_no z p t m (h.keep hk))
  have HA := hid (fun z => mayPrio_any z pr)
  have HB := hid (fun z => mayMsg_any z m2)
  have c1 := cell_two1 b0
  generalize mayP pr = A at *
  generalize mayM m2 = B at *
  rw [passed_zero]
  clear h
  have K0 := hid k0
  clear b0 k0
  cases A <;> cases B
  all_goals (
    go_enter Try.func15, Try.ntmps15
    go_wp2_with (first | (go_at_call 45; refine (HA.out _).mono ?_; rintro e w1 ⟨rfl, hw⟩; obtain rfl := hw.symm) | (go_at_call 46; refine (HB.out _).mono ?_; rintro e w1 ⟨rfl, hw⟩; obtain rfl := hw.symm) | (go_at_call 44; refine (HR.out _ K0.out _).mono ?_; rintro e w1 ⟨rfl, hk⟩; have HK := hid (K0.out.trans hk); have HB4 := hid (p0.out.keep hk (by simp)); have q0 := HB4.out.c0; have q1 := HB4.out.c1; have q2 := HB4.out.c2; have q3 := HB4.out.c3; have q4 := HB4.out.fr; clear hk))
    refine bodyPost_ret (results_cell_tmp rfl _ _ (w.heap.size + 1) #[.bool false, .int .i64 0, .int .i64 0, .int .i64 0] (0, 0) rfl (HB4.out.set false 0 0 0) (size45 _ _ _ _)) rfl ?_
    exact ⟨rfl, HK.out.past (kp_set4 _ _ _ _ _ _) (fun k hk hl => by simp at hk; omega)⟩)
set_option maxRecDepth 100000 in
theorem send_bad (h : Qc w qb R M) (t pr m1 m2 : Int) (ht : i64 t) (hE : sendE M t pr (m1, m2) ≠ 0) : Calls Try.prog 15 #[.pointer (some ⟨qb, 0, none⟩), .int .i64 t, .int .i64 pr, .agg #[.int .i64 m1, .int .i64 m2]] w fun e w' => e = .returned (.tuple #[passed false (0, 0) 0, .int .i64 (sendE M t pr (m1, m2))]) ∧ To w w' qb R M := by
  have k0 := (Kp.alloc w (.cells #[.int .i64 m1, .int .i64 m2] 34) []).trans (Kp.alloc _ (.cells #[.bool false, .int .i64 0, .int .i64 0, .int .i64 0] 45) [])
  have b0 := (Bm.new w (m1, m2)).keep (Kp.alloc _ (.cells #[.bool false, .int .i64 0, .int .i64 0, .int .i64 0] 45) []) (by simp)
  have p0 := hid (Bp.new w (.cells #[.int .i64 m1, .int .i64 m2] 34))
  have HR := hid (fun (z : World) (hk : Kp w z []) (m : Bool) => refusal_yes (h.same hk) t m ht)
  have HA := hid (fun z => mayPrio_any z pr)
  have HB := hid (fun z => mayMsg_any z m2)
  have HF := hid (fun z (hk : Kp w z []) => To.stay h hk)
  have c1 := cell_two1 b0
  unfold sendE at hE ⊢
  simp only at hE ⊢
  have hEb : ∀ x, refE M t (mayP pr && mayM m2) = x → (x == 0) = false := fun x e => by rw [← e]; simpa using hE
  generalize mayP pr = A at *
  generalize mayM m2 = B at *
  rw [passed_zero]
  clear h hE
  have K0 := hid k0
  clear b0 k0
  obtain ⟨E, hEE⟩ : ∃ E, refE M t (A && B) = E := ⟨_, rfl⟩
  have hE0 := hEb E hEE
  rw [hEE]
  have HEE := hid hEE
  clear hEE hEb
  cases A <;> cases B
  all_goals (
    go_enter Try.func15, Try.ntmps15
    go_wp2_with (first | (go_at_call 45; refine (HA.out _).mono ?_; rintro e w1 ⟨rfl, hw⟩; obtain rfl := hw.symm) | (go_at_call 46; refine (HB.out _).mono ?_; rintro e w1 ⟨rfl, hw⟩; obtain rfl := hw.symm) | (go_at_call 44; refine (HR.out _ K0.out _).mono ?_; (try simp only [Bool.and_false, Bool.and_true, Bool.and_self] at HEE); rw [HEE.out]; rintro e w1 ⟨rfl, hk⟩; have HK := hid (K0.out.trans hk); have HB4 := hid (p0.out.keep hk (by simp)); have q0 := HB4.out.c0; have q1 := HB4.out.c1; have q2 := HB4.out.c2; have q3 := HB4.out.c3; have q4 := HB4.out.fr; clear hk))
    refine bodyPost_ret (results_cell_tmp rfl _ _ (w.heap.size + 1) #[.bool false, .int .i64 0, .int .i64 0, .int .i64 0] (0, 0) rfl (HB4.out.set false 0 0 0) (size45 _ _ _ _)) rfl ?_
    exact ⟨rfl, HF.out _ (HK.out.past (kp_set4 _ _ _ _ _ _) (fun k hk hl => by simp at hk; omega))⟩)
end Go.Proofs.Ytllkopekfanfaaa
