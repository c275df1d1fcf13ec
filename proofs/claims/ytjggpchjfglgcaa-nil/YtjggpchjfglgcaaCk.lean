/- Looking at a cancellation, and setting its flags. -/
import Derived.BigQuiet
import Derived.Laws.ResultCell
import Derived.Deep.MidRow
import Derived.Deep.WholeRow
import Derived.Deep.RegionHeldLaw
import Derived.Test.YtjggpchjfglgcaaCm
namespace Go.Proofs.Ytjggpchjfglgcaa
open Go.RowKit Go.Shelf Go.Lib
attribute [local go_sem] Oper.semAt_some

theorem wpList_store_new {P : Program} {ops : Array Oper} {rest : List Oper} {op : Oper} {a : Act} {w : World} {Q : Exit → Act → World → Prop} (hgd : op.guard = none) (ty : TypeId) (x y : Operand) (ho : op.op = .store ty x y)
    (t : TypeId) (c c' : Array Value) (hx : a.eval x = .pointer (some ⟨w.heap.size, 0, none⟩)) (hy : a.eval y = .agg c')
    (hi : (P.info? ty).map (·.size) = some c'.size) (hs : c.size = c'.size) (h1 : c'.all (·.oneCell') = true)
    (h : wpList P ops Q rest (a.put op.dst undef) (w.alloc (.cells c' t))) : wpList P ops Q (op :: rest) a (w.alloc (.cells c t)) :=
  wpList_plain hgd fun _ hK => wp_store_row ty x y ho w.heap.size c' hx hy t c (heap_alloc_last w _) hi hs h1 (by rw [World.setRow_alloc_new]; exact hK _ _ h)
def zeroC : Cn := ⟨false, false, false, false, []⟩
/-- A cancellation that may not be there: then it looks like one in which all is false. -/
def Cv (w : World) (p : Option Addr) (M : Cn) (z : Bool) : Prop := (z = false ∧ ∃ cb, p = some ⟨cb, 0, none⟩ ∧ Cc w cb M) ∨ (z = true ∧ Zc w p ∧ M = zeroC)
theorem Cv.keep {w w' : World} {p : Option Addr} {M : Cn} {z : Bool} (h : Cv w p M z) (hk : Kp w w' []) : Cv w' p M z := by
  rcases h with ⟨a, cb, b, c⟩ | ⟨a, b, c⟩
  · exact .inl ⟨a, cb, b, c.same hk⟩
  · exact .inr ⟨a, b.keep hk, c⟩
theorem Cc.cv {w : World} {cb : Nat} {M : Cn} (h : Cc w cb M) : Cv w (some ⟨cb, 0, none⟩) M false := .inl ⟨rfl, cb, rfl, h⟩
theorem Zc.cv {w : World} {p : Option Addr} (h : Zc w p) : Cv w p zeroC true := .inr ⟨rfl, h, rfl⟩
theorem isz_any {w : World} {p : Option Addr} {M : Cn} {z : Bool} (h : Cv w p M z) : Calls Try.prog 35 #[.pointer p] w fun e w' => e = .returned (.bool z) ∧ w' = w := by
  rcases h with ⟨rfl, cb, rfl, c⟩ | ⟨rfl, b, -⟩
  · exact cz_no c
  · exact cz_yes w p b
def flV (M : Cn) : Array Value := #[.bool M.a, .bool M.e, .bool M.o, .bool M.u]
def stA (M : Cn) : Array Value := #[.int .i64 (M.L.length : Nat), .int .i64 (atL M.L 0).1, .int .i64 (atL M.L 0).2, .int .i64 (atL M.L 1).1, .int .i64 (atL M.L 1).2, .int .i64 (atL M.L 2).1, .int .i64 (atL M.L 2).2, .int .i64 (atL M.L 3).1, .int .i64 (atL M.L 3).2, .int .i64 (atL M.L 4).1, .int .i64 (atL M.L 4).2, .int .i64 (atL M.L 5).1, .int .i64 (atL M.L 5).2, .int .i64 (atL M.L 6).1, .int .i64 (atL M.L 6).2, .int .i64 (atL M.L 7).1, .int .i64 (atL M.L 7).2]
theorem stA_eq (M : Cn) : (vcl (canN M M.L.length) 17 5).toArray = stA M := rfl
theorem stA_one (M : Cn) : (stA M).all (·.oneCell') = true := by
  rw [← stA_eq]
  refine all_oneCell_toArray fun v hv => ?_
  obtain ⟨j, rfl⟩ := vcl_mem _ _ hv
  unfold canN clV
  repeat' split
  all_goals rfl
theorem size54 (a b c d : Value) : (Try.prog.info? 54).map (·.size) = some (#[a, b, c, d] : Array Value).size := by kernel_rfl
theorem size57 (M : Cn) : (Try.prog.info? 57).map (·.size) = some (stA M).size := by kernel_rfl
theorem size57' (F : Nat → Value) : (Try.prog.info? 57).map (·.size) = some (vcl F 17 5).length := by kernel_rfl
theorem Cc.range {w : World} {cb n : Nat} {M : Cn} (h : Cw w cb M n) : w.rangeAt cb 5 (vcl (canN M n) 17 5) := by
  intro j v hv
  have hj : j < 17 := by
    rcases Nat.lt_or_ge j 17 with h' | h'
    · exact h'
    · rw [List.getElem?_eq_none (by rw [vcl_length]; exact h')] at hv; cases hv
  rw [vcl_at _ 17 5 j hj] at hv
  rw [vcl_cell h (5 + j) (by omega), ← hv]
theorem fld57 (M : Cn) (W : World) : (Instr.field 57 (.agg (stA M)) 0).run Try.prog W = .ok (.int .i64 (M.L.length : Nat)) W := by kernel_rfl
theorem fld54_a (M : Cn) (W : World) : (Instr.field 54 (.agg (flV M)) 0).run Try.prog W = .ok (.bool M.a) W := by kernel_rfl
theorem fld54_e (M : Cn) (W : World) : (Instr.field 54 (.agg (flV M)) 1).run Try.prog W = .ok (.bool M.e) W := by kernel_rfl
theorem fld54_o (M : Cn) (W : World) : (Instr.field 54 (.agg (flV M)) 2).run Try.prog W = .ok (.bool M.o) W := by kernel_rfl
theorem fld54_u (M : Cn) (W : World) : (Instr.field 54 (.agg (flV M)) 3).run Try.prog W = .ok (.bool M.u) W := by kernel_rfl
set_option maxRecDepth 100000 in
theorem now_any {w : World} {p : Option Addr} {M : Cn} {z : Bool} (h : Cv w p M z) : Calls Try.prog 36 #[.pointer p] w fun e w' => e = .returned (.agg (flV M)) ∧ Kp w w' [] := by
  have HZ := hid (fun (y : World) (hk : Kp w y []) => isz_any (h.keep hk))
  rcases h with ⟨rfl, cb, rfl, c⟩ | ⟨rfl, -, rfl⟩
  · have ka := Kp.alloc w (.cells #[.bool false, .bool false, .bool false, .bool false] 54) []
    have c1 := (c.cw.keep ka (by simp)).c1
    have c2 := (c.cw.keep ka (by simp)).c2
    have c3 := (c.cw.keep ka (by simp)).c3
    have c4 := (c.cw.keep ka (by simp)).c4
    obtain ⟨a, e, o, u, L⟩ := M
    simp only at c1 c2 c3 c4
    clear c ka
    go_enter Try.func36, Try.ntmps36
    go_wp2_with (go_at_call 35; refine (HZ.out _ (Kp.alloc _ _ _)).mono ?_; rintro e w1 ⟨rfl, rfl⟩)
    refine bodyPost_ret (results_cell_row rfl _ _ w.heap.size 54 #[.bool a, .bool e, .bool o, .bool u] (0, 0) _ rfl (heap_alloc_new w _) Try.underlying54 rfl (size54 _ _ _ _)) rfl ?_
    exact ⟨rfl, Kp.alloc _ _ _⟩
  · go_enter Try.func36, Try.ntmps36
    go_wp2_with (go_at_call 35; refine (HZ.out _ (Kp.alloc _ _ _)).mono ?_; rintro e w1 ⟨rfl, rfl⟩)
    refine bodyPost_ret (results_cell_row rfl _ _ w.heap.size 54 #[.bool false, .bool false, .bool false, .bool false] (0, 0) _ rfl (heap_alloc_new w _) Try.underlying54 rfl (size54 _ _ _ _)) rfl ?_
    exact ⟨rfl, Kp.alloc _ _ _⟩
set_option maxRecDepth 100000 in
theorem cleanups_any {w : World} {p : Option Addr} {M : Cn} {z : Bool} (h : Cv w p M z) : Calls Try.prog 34 #[.pointer p] w fun e w' => e = .returned (.agg (stA M)) ∧ Kp w w' [] := by
  have HZ := hid (fun (y : World) (hk : Kp w y []) => isz_any (h.keep hk))
  rcases h with ⟨rfl, cb, rfl, c⟩ | ⟨rfl, -, rfl⟩
  · have HR := hid (fun (y : World) (hk : Kp w y []) => Cc.range (c.same hk).cw)
    have E := hid (stA_eq M)
    have O := hid (stA_one M)
    have Z := hid (size57 M)
    have Z' := hid (size57' (canN M M.L.length))
    obtain ⟨A, hA⟩ : ∃ A, stA M = A := ⟨_, rfl⟩
    obtain ⟨V, hV⟩ : ∃ V, vcl (canN M M.L.length) 17 5 = V := ⟨_, rfl⟩
    rw [hV] at HR E Z'
    rw [hA] at E O Z ⊢
    have hs : A.size = 17 := by rw [← hA]; rfl
    have HS := hid hs
    clear c hA hV hs
    go_enter Try.func34, Try.ntmps34
    go_wp2_with (first | (go_at_call 35; refine (HZ.out _ (Kp.alloc _ _ _)).mono ?_; rintro e w1 ⟨rfl, rfl⟩) | (refine wpList_load_mid rfl 57 (.tmp 8) rfl cb 5 rfl V _ (HR.out _ (Kp.alloc _ _ _)) Try.underlying57 rfl Z'.out ?_; rw [E.out]; refine wpList_store_new rfl 57 (.tmp 2) (.tmp 9) rfl 57 _ A rfl rfl Z.out (by rw [HS.out]; rfl) O.out ?_))
    refine bodyPost_ret (results_cell_row rfl _ _ w.heap.size 57 A (0, 0) _ rfl (heap_alloc_new w _) Try.underlying57 rfl Z.out) rfl ?_
    exact ⟨rfl, Kp.alloc _ _ _⟩
  · go_enter Try.func34, Try.ntmps34
    go_wp2_with (go_at_call 35; refine (HZ.out _ (Kp.alloc _ _ _)).mono ?_; rintro e w1 ⟨rfl, rfl⟩)
    refine bodyPost_ret (results_cell_row rfl _ _ w.heap.size 57 (stA zeroC) (0, 0) _ rfl (heap_alloc_new w _) Try.underlying57 rfl (size57 _)) rfl ?_
    exact ⟨rfl, Kp.alloc _ _ _⟩
set_option maxRecDepth 100000 in
theorem len_any {w : World} {p : Option Addr} {M : Cn} {z : Bool} (h : Cv w p M z) : Calls Try.prog 24 #[.pointer p] w fun e w' => e = .returned (.int .i64 (M.L.length : Nat)) ∧ Kp w w' [] := by
  have H := hid (cleanups_any h)
  clear h
  go_enter Try.func24, Try.ntmps24
  go_wp2_with fail
  refine H.out.mono ?_
  rintro e w1 ⟨rfl, hk⟩
  have K := hid hk
  clear hk
  have hq := fld57 M
  go_wp2_with fail
  go_ret
  exact ⟨rfl, K.out⟩
set_option maxRecDepth 100000 in
theorem asked_any {w : World} {p : Option Addr} {M : Cn} {z : Bool} (h : Cv w p M z) : Calls Try.prog 25 #[.pointer p] w fun e w' => e = .returned (.bool M.a) ∧ Kp w w' [] := by
  have H := hid (now_any h)
  clear h
  go_enter Try.func25, Try.ntmps25
  go_wp2_with fail
  refine H.out.mono ?_
  rintro e w1 ⟨rfl, hk⟩
  have K := hid hk
  clear hk
  have hq := fld54_a M
  go_wp2_with fail
  go_ret
  exact ⟨rfl, K.out⟩
set_option maxRecDepth 100000 in
theorem enabled_any {w : World} {p : Option Addr} {M : Cn} {z : Bool} (h : Cv w p M z) : Calls Try.prog 22 #[.pointer p] w fun e w' => e = .returned (.bool M.e) ∧ Kp w w' [] := by
  have H := hid (now_any h)
  clear h
  go_enter Try.func22, Try.ntmps22
  go_wp2_with fail
  refine H.out.mono ?_
  rintro e w1 ⟨rfl, hk⟩
  have K := hid hk
  clear hk
  have hq := fld54_e M
  go_wp2_with fail
  go_ret
  exact ⟨rfl, K.out⟩
set_option maxRecDepth 100000 in
theorem atonce_any {w : World} {p : Option Addr} {M : Cn} {z : Bool} (h : Cv w p M z) : Calls Try.prog 23 #[.pointer p] w fun e w' => e = .returned (.bool M.o) ∧ Kp w w' [] := by
  have H := hid (now_any h)
  clear h
  go_enter Try.func23, Try.ntmps23
  go_wp2_with fail
  refine H.out.mono ?_
  rintro e w1 ⟨rfl, hk⟩
  have K := hid hk
  clear hk
  have hq := fld54_o M
  go_wp2_with fail
  go_ret
  exact ⟨rfl, K.out⟩
set_option maxRecDepth 100000 in
theorem unwinds_any {w : World} {p : Option Addr} {M : Cn} {z : Bool} (h : Cv w p M z) : Calls Try.prog 26 #[.pointer p] w fun e w' => e = .returned (.bool M.u) ∧ Kp w w' [] := by
  have H := hid (now_any h)
  clear h
  go_enter Try.func26, Try.ntmps26
  go_wp2_with fail
  refine H.out.mono ?_
  rintro e w1 ⟨rfl, hk⟩
  have K := hid hk
  clear hk
  have hq := fld54_u M
  go_wp2_with fail
  go_ret
  exact ⟨rfl, K.out⟩
set_option maxRecDepth 100000 in
theorem acts_any {w : World} {p : Option Addr} {M : Cn} {z : Bool} (h : Cv w p M z) (b : Bool) : Calls Try.prog 21 #[.pointer p, .bool b] w fun e w' => e = .returned (.bool (actsV M b)) ∧ Kp w w' [] := by
  have H := hid (now_any h)
  clear h
  obtain ⟨a, e, o, u, L⟩ := M
  unfold flV at H
  unfold actsV
  simp only at H ⊢
  rcases a with _ | _ <;> rcases e with _ | _ <;> rcases o with _ | _ <;> rcases u with _ | _ <;> rcases b with _ | _
  all_goals
    go_enter Try.func21, Try.ntmps21
    go_wp2_with fail
    refine H.out.mono ?_
    rintro e w1 ⟨rfl, hk⟩
    have K := hid hk
    clear hk
    go_wp2_with fail
    go_ret
    exact ⟨rfl, K.out.trans (Kp.alloc _ _ _)⟩
set_option maxRecDepth 100000 in
theorem swap_any {w : World} {b i : Nat} {v : Bool} (hc : w.cell? ⟨b, i, none⟩ = some (.bool v)) (hf : w.frozen? ⟨b, i, none⟩ = false) (t : Bool) : Calls Try.prog 39 #[.pointer (some ⟨b, i, none⟩), .bool t] w fun e w' => e = .returned (.bool v) ∧ w' = w.setCell ⟨b, i, none⟩ (.bool t) := by
  go_enter Try.func39, Try.ntmps39
  go_wp2_with fail
  go_ret
  exact ⟨rfl, rfl⟩
set_option maxRecDepth 100000 in
theorem askF_any {w : World} {cb n : Nat} {M : Cn} (h : Cw w cb M n) : Calls Try.prog 38 #[.pointer (some ⟨cb, 1, none⟩)] w fun e w' => e = .returned (.bool (!M.a)) ∧ w' = w.setCell ⟨cb, 1, none⟩ (.bool true) := by
  have H := hid (swap_any h.c1 (h.free 1) true)
  clear h
  obtain ⟨b, hb⟩ : ∃ b, M.a = b := ⟨_, rfl⟩
  rw [hb] at H ⊢
  clear hb
  go_enter Try.func38, Try.ntmps38
  go_wp2_with fail
  refine H.out.mono ?_
  rintro e w1 ⟨rfl, hw1⟩
  have W := hid hw1
  clear hw1
  go_wp2_with fail
  go_ret
  exact ⟨rfl, W.out⟩
set_option maxRecDepth 100000 in
theorem change_ask {w : World} {cb n : Nat} {M : Cn} (h : Cw w cb M n) : Calls Try.prog 37 #[.pointer (some ⟨cb, 0, none⟩), .func (.func 38) #[] #[]] w fun e w' => e = .returned (.tuple #[.bool (!M.a), .int .i64 0]) ∧ Cw w' cb { M with a := true } n ∧ Kp w w' [cb] := by
  have HZ := hid (cz_no h)
  have H := hid (askF_any h)
  have E := hid (h.s1 true)
  clear h
  go_enter Try.func37, Try.ntmps37
  go_wp2_with fail
  refine HZ.out.mono ?_
  rintro e w1 ⟨rfl, hw⟩; obtain rfl := hw.symm
  go_wp2_with fail
  refine H.out.mono ?_
  rintro e w1 ⟨rfl, hw1⟩
  have W := hid hw1
  clear hw1
  go_wp2_with fail
  go_ret2
  rw [W.out]
  exact ⟨rfl, E.out, Kp.setCell _ _ _⟩
set_option maxRecDepth 100000 in
theorem change_ask_zero (w : World) (p : Option Addr) (h : Zc w p) : Calls Try.prog 37 #[.pointer p, .func (.func 38) #[] #[]] w fun e w' => e = .returned (.tuple #[.bool false, .int .i64 1]) ∧ w' = w := by
  have HZ := hid (cz_yes w p h)
  clear h
  go_enter Try.func37, Try.ntmps37
  go_wp2_with fail
  refine HZ.out.mono ?_
  rintro e w1 ⟨rfl, hw⟩; obtain rfl := hw.symm
  go_wp2_with fail
  go_ret2
  exact ⟨rfl, rfl⟩
set_option maxRecDepth 100000 in
theorem unwindF_any {w : World} {cb n : Nat} {M : Cn} (h : Cw w cb M n) : Calls Try.prog 43 #[.pointer (some ⟨cb, 1, none⟩)] w fun e w' => e = .returned (.bool M.u) ∧ w' = w.setCell ⟨cb, 4, none⟩ (.bool true) := by
  have H := hid (swap_any h.c4 (h.free 4) true)
  clear h
  obtain ⟨b, hb⟩ : ∃ b, M.u = b := ⟨_, rfl⟩
  rw [hb] at H ⊢
  clear hb
  go_enter Try.func43, Try.ntmps43
  go_wp2_with fail
  refine H.out.mono ?_
  rintro e w1 ⟨rfl, hw1⟩
  have W := hid hw1
  clear hw1
  go_wp2_with fail
  go_ret
  exact ⟨rfl, W.out⟩
set_option maxRecDepth 100000 in
theorem change_unwind {w : World} {cb n : Nat} {M : Cn} (h : Cw w cb M n) : Calls Try.prog 37 #[.pointer (some ⟨cb, 0, none⟩), .func (.func 43) #[] #[]] w fun e w' => e = .returned (.tuple #[.bool M.u, .int .i64 0]) ∧ Cw w' cb { M with u := true } n ∧ Kp w w' [cb] := by
  have HZ := hid (cz_no h)
  have H := hid (unwindF_any h)
  have E := hid (h.s4 true)
  clear h
  go_enter Try.func37, Try.ntmps37
  go_wp2_with fail
  refine HZ.out.mono ?_
  rintro e w1 ⟨rfl, hw⟩; obtain rfl := hw.symm
  go_wp2_with fail
  refine H.out.mono ?_
  rintro e w1 ⟨rfl, hw1⟩
  have W := hid hw1
  clear hw1
  go_wp2_with fail
  go_ret2
  rw [W.out]
  exact ⟨rfl, E.out, Kp.setCell _ _ _⟩
set_option maxRecDepth 100000 in
theorem change_unwind_zero (w : World) (p : Option Addr) (h : Zc w p) : Calls Try.prog 37 #[.pointer p, .func (.func 43) #[] #[]] w fun e w' => e = .returned (.tuple #[.bool false, .int .i64 1]) ∧ w' = w := by
  have HZ := hid (cz_yes w p h)
  clear h
  go_enter Try.func37, Try.ntmps37
  go_wp2_with fail
  refine HZ.out.mono ?_
  rintro e w1 ⟨rfl, hw⟩; obtain rfl := hw.symm
  go_wp2_with fail
  go_ret2
  exact ⟨rfl, rfl⟩
set_option maxRecDepth 100000 in
theorem enableF_any {w : World} {cb n bx : Nat} {M : Cn} {t : Bool} (h : Cw w cb M n) (hb : w.cell? ⟨bx, 0, none⟩ = some (.bool t)) (hne : bx ≠ cb) : Calls Try.prog 40 #[.pointer (some ⟨cb, 1, none⟩), .pointer (some ⟨bx, 0, none⟩)] w fun e w' => e = .returned (.bool M.e) ∧ Cw w' cb { M with e := t } n ∧ Kp w w' [cb] := by
  have hd := h.keep (Kp.drew w []) (by simp)
  have H := hid (swap_any hd.c2 (hd.free 2) t)
  have E := hid (hd.s2 t)
  clear h hd
  obtain ⟨b, hb'⟩ : ∃ b, M.e = b := ⟨_, rfl⟩
  rw [hb'] at H ⊢
  clear hb'
  go_enter Try.func40, Try.ntmps40
  go_wp2_with fail
  go_region_held_law (fun W => W.cell? ⟨bx, 0, none⟩ = some (.bool t)) (first | exact hb | exact B1) (first | (go_at_call 39; refine H.out.mono ?_; rintro e w1 ⟨rfl, hw1⟩; have W := hid hw1; have B1 := (Kp.setCell w.drew ⟨cb, 2, none⟩ (.bool t)).cell hb (by simpa using hne); rw [← hw1] at B1; clear hw1) | fail)
  try go_wp2
  go_ret
  rw [W.out]
  exact ⟨rfl, E.out, (Kp.drew w [cb]).trans (Kp.setCell _ _ _)⟩
set_option maxRecDepth 100000 in
theorem change_enable {w : World} {cb n bx : Nat} {M : Cn} {t : Bool} (h : Cw w cb M n) (hb : w.cell? ⟨bx, 0, none⟩ = some (.bool t)) (hne : bx ≠ cb) : Calls Try.prog 37 #[.pointer (some ⟨cb, 0, none⟩), .func (.func 40) #[] #[.pointer (some ⟨bx, 0, none⟩)]] w fun e w' => e = .returned (.tuple #[.bool M.e, .int .i64 0]) ∧ Cw w' cb { M with e := t } n ∧ Kp w w' [cb] := by
  have HZ := hid (cz_no h)
  have H := hid (enableF_any h hb hne)
  clear h hb
  go_enter Try.func37, Try.ntmps37
  go_wp2_with fail
  refine HZ.out.mono ?_
  rintro e w1 ⟨rfl, hw⟩; obtain rfl := hw.symm
  go_wp2_with fail
  refine H.out.mono ?_
  rintro e w1 ⟨rfl, hE⟩
  have W := hid hE
  clear hE
  go_wp2_with fail
  go_ret2
  exact ⟨rfl, W.out⟩
set_option maxRecDepth 100000 in
theorem change_enable_zero (w : World) (p : Option Addr) (bx : Nat) (h : Zc w p) : Calls Try.prog 37 #[.pointer p, .func (.func 40) #[] #[.pointer (some ⟨bx, 0, none⟩)]] w fun e w' => e = .returned (.tuple #[.bool false, .int .i64 1]) ∧ w' = w := by
  have HZ := hid (cz_yes w p h)
  clear h
  go_enter Try.func37, Try.ntmps37
  go_wp2_with fail
  refine HZ.out.mono ?_
  rintro e w1 ⟨rfl, hw⟩; obtain rfl := hw.symm
  go_wp2_with fail
  go_ret2
  exact ⟨rfl, rfl⟩
set_option maxRecDepth 100000 in
theorem enable_any {w : World} {cb n : Nat} {M : Cn} (h : Cw w cb M n) (t : Bool) : Calls Try.prog 15 #[.pointer (some ⟨cb, 0, none⟩), .bool t] w fun e w' => e = .returned (.tuple #[.bool M.e, .int .i64 0]) ∧ Cw w' cb { M with e := t } n ∧ Kp w w' [cb] := by
  have hb := cell_of_row (w.alloc (.cells #[.bool t] 4)) w.heap.size 0 _ _ _ (heap_alloc_new w (.cells #[.bool t] 4))
  have H := hid (change_enable (bx := w.heap.size) (t := t) (h.keep (Kp.alloc w (.cells #[.bool t] 4) []) (by simp)) hb (by have := h.lt; omega))
  clear h hb
  obtain ⟨b, hb'⟩ : ∃ b, M.e = b := ⟨_, rfl⟩
  rw [hb'] at H ⊢
  clear hb'
  go_enter Try.func15, Try.ntmps15
  go_wp2_with fail
  refine H.out.mono ?_
  rintro e w1 ⟨rfl, hE⟩
  have W := hid hE
  clear hE
  go_wp2_with fail
  go_ret2
  exact ⟨rfl, W.out.1, ((Kp.alloc w _ [cb])).trans W.out.2⟩
set_option maxRecDepth 100000 in
theorem enable_zero (w : World) (p : Option Addr) (h : Zc w p) (t : Bool) : Calls Try.prog 15 #[.pointer p, .bool t] w fun e w' => e = .returned (.tuple #[.bool false, .int .i64 1]) ∧ Kp w w' [] := by
  have H := hid (change_enable_zero (w.alloc (.cells #[.bool t] 4)) p w.heap.size (h.keep (Kp.alloc _ _ _)))
  clear h
  go_enter Try.func15, Try.ntmps15
  go_wp2_with fail
  refine H.out.mono ?_
  rintro e w1 ⟨rfl, hE⟩
  have W := hid hE
  clear hE
  go_wp2_with fail
  go_ret2
  rw [W.out]
  exact ⟨rfl, Kp.alloc _ _ _⟩
set_option maxRecDepth 100000 in
theorem asyncF_any {w : World} {cb n bx : Nat} {M : Cn} {t : Bool} (h : Cw w cb M n) (hb : w.cell? ⟨bx, 0, none⟩ = some (.bool t)) (hne : bx ≠ cb) : Calls Try.prog 41 #[.pointer (some ⟨cb, 1, none⟩), .pointer (some ⟨bx, 0, none⟩)] w fun e w' => e = .returned (.bool M.o) ∧ Cw w' cb { M with o := t } n ∧ Kp w w' [cb] := by
  have hd := h.keep (Kp.drew w []) (by simp)
  have H := hid (swap_any hd.c3 (hd.free 3) t)
  have E := hid (hd.s3 t)
  clear h hd
  obtain ⟨b, hb'⟩ : ∃ b, M.o = b := ⟨_, rfl⟩
  rw [hb'] at H ⊢
  clear hb'
  go_enter Try.func41, Try.ntmps41
  go_wp2_with fail
  go_region_held_law (fun W => W.cell? ⟨bx, 0, none⟩ = some (.bool t)) (first | exact hb | exact B1) (first | (go_at_call 39; refine H.out.mono ?_; rintro e w1 ⟨rfl, hw1⟩; have W := hid hw1; have B1 := (Kp.setCell w.drew ⟨cb, 3, none⟩ (.bool t)).cell hb (by simpa using hne); rw [← hw1] at B1; clear hw1) | fail)
  try go_wp2
  go_ret
  rw [W.out]
  exact ⟨rfl, E.out, (Kp.drew w [cb]).trans (Kp.setCell _ _ _)⟩
set_option maxRecDepth 100000 in
theorem change_async {w : World} {cb n bx : Nat} {M : Cn} {t : Bool} (h : Cw w cb M n) (hb : w.cell? ⟨bx, 0, none⟩ = some (.bool t)) (hne : bx ≠ cb) : Calls Try.prog 37 #[.pointer (some ⟨cb, 0, none⟩), .func (.func 41) #[] #[.pointer (some ⟨bx, 0, none⟩)]] w fun e w' => e = .returned (.tuple #[.bool M.o, .int .i64 0]) ∧ Cw w' cb { M with o := t } n ∧ Kp w w' [cb] := by
  have HZ := hid (cz_no h)
  have H := hid (asyncF_any h hb hne)
  clear h hb
  go_enter Try.func37, Try.ntmps37
  go_wp2_with fail
  refine HZ.out.mono ?_
  rintro e w1 ⟨rfl, hw⟩; obtain rfl := hw.symm
  go_wp2_with fail
  refine H.out.mono ?_
  rintro e w1 ⟨rfl, hE⟩
  have W := hid hE
  clear hE
  go_wp2_with fail
  go_ret2
  exact ⟨rfl, W.out⟩
set_option maxRecDepth 100000 in
theorem change_async_zero (w : World) (p : Option Addr) (bx : Nat) (h : Zc w p) : Calls Try.prog 37 #[.pointer p, .func (.func 41) #[] #[.pointer (some ⟨bx, 0, none⟩)]] w fun e w' => e = .returned (.tuple #[.bool false, .int .i64 1]) ∧ w' = w := by
  have HZ := hid (cz_yes w p h)
  clear h
  go_enter Try.func37, Try.ntmps37
  go_wp2_with fail
  refine HZ.out.mono ?_
  rintro e w1 ⟨rfl, hw⟩; obtain rfl := hw.symm
  go_wp2_with fail
  go_ret2
  exact ⟨rfl, rfl⟩
set_option maxRecDepth 100000 in
theorem async_any {w : World} {cb n : Nat} {M : Cn} (h : Cw w cb M n) (t : Bool) : Calls Try.prog 16 #[.pointer (some ⟨cb, 0, none⟩), .bool t] w fun e w' => e = .returned (.tuple #[.bool M.o, .int .i64 0]) ∧ Cw w' cb { M with o := t } n ∧ Kp w w' [cb] := by
  have hb := cell_of_row (w.alloc (.cells #[.bool t] 4)) w.heap.size 0 _ _ _ (heap_alloc_new w (.cells #[.bool t] 4))
  have H := hid (change_async (bx := w.heap.size) (t := t) (h.keep (Kp.alloc w (.cells #[.bool t] 4) []) (by simp)) hb (by have := h.lt; omega))
  clear h hb
  obtain ⟨b, hb'⟩ : ∃ b, M.o = b := ⟨_, rfl⟩
  rw [hb'] at H ⊢
  clear hb'
  go_enter Try.func16, Try.ntmps16
  go_wp2_with fail
  refine H.out.mono ?_
  rintro e w1 ⟨rfl, hE⟩
  have W := hid hE
  clear hE
  go_wp2_with fail
  go_ret2
  exact ⟨rfl, W.out.1, ((Kp.alloc w _ [cb])).trans W.out.2⟩
set_option maxRecDepth 100000 in
theorem async_zero (w : World) (p : Option Addr) (h : Zc w p) (t : Bool) : Calls Try.prog 16 #[.pointer p, .bool t] w fun e w' => e = .returned (.tuple #[.bool false, .int .i64 1]) ∧ Kp w w' [] := by
  have H := hid (change_async_zero (w.alloc (.cells #[.bool t] 4)) p w.heap.size (h.keep (Kp.alloc _ _ _)))
  clear h
  go_enter Try.func16, Try.ntmps16
  go_wp2_with fail
  refine H.out.mono ?_
  rintro e w1 ⟨rfl, hE⟩
  have W := hid hE
  clear hE
  go_wp2_with fail
  go_ret2
  rw [W.out]
  exact ⟨rfl, Kp.alloc _ _ _⟩
set_option maxRecDepth 100000 in
theorem ask_any {w : World} {cb n : Nat} {M : Cn} (h : Cw w cb M n) : Calls Try.prog 14 #[.pointer (some ⟨cb, 0, none⟩)] w fun e w' => e = .returned (.tuple #[.bool (!M.a), .int .i64 0]) ∧ Cw w' cb { M with a := true } n ∧ Kp w w' [cb] := by
  have H := hid (change_ask h)
  clear h
  obtain ⟨b, hb'⟩ : ∃ b, (!M.a) = b := ⟨_, rfl⟩
  rw [hb'] at H ⊢
  clear hb'
  go_enter Try.func14, Try.ntmps14
  go_wp2_with fail
  refine H.out.mono ?_
  rintro e w1 ⟨rfl, hE⟩
  have W := hid hE
  clear hE
  go_wp2_with fail
  go_ret2
  exact ⟨rfl, W.out⟩
set_option maxRecDepth 100000 in
theorem ask_zero (w : World) (p : Option Addr) (h : Zc w p) : Calls Try.prog 14 #[.pointer p] w fun e w' => e = .returned (.tuple #[.bool false, .int .i64 1]) ∧ w' = w := by
  have H := hid (change_ask_zero w p h)
  clear h
  go_enter Try.func14, Try.ntmps14
  go_wp2_with fail
  refine H.out.mono ?_
  rintro e w1 ⟨rfl, hw⟩; obtain rfl := hw.symm
  go_wp2_with fail
  go_ret2
  exact ⟨rfl, rfl⟩
set_option maxRecDepth 100000 in
theorem unwind_any {w : World} {cb n : Nat} {M : Cn} (h : Cw w cb M n) : Calls Try.prog 20 #[.pointer (some ⟨cb, 0, none⟩)] w fun e w' => e = .returned (.int .i64 (unwE M)) ∧ Cw w' cb { M with u := true } n ∧ Kp w w' [cb] := by
  have H := hid (change_unwind h)
  clear h
  unfold unwE
  obtain ⟨b, hb'⟩ : ∃ b, M.u = b := ⟨_, rfl⟩
  rw [hb'] at H ⊢
  clear hb'
  cases b
  all_goals
    go_enter Try.func20, Try.ntmps20
    go_wp2_with fail
    refine H.out.mono ?_
    rintro e w1 ⟨rfl, hE⟩
    have W := hid hE
    clear hE
    go_wp2_with fail
    go_ret
    exact ⟨rfl, W.out⟩
set_option maxRecDepth 100000 in
theorem unwind_zero (w : World) (p : Option Addr) (h : Zc w p) : Calls Try.prog 20 #[.pointer p] w fun e w' => e = .returned (.int .i64 1) ∧ w' = w := by
  have H := hid (change_unwind_zero w p h)
  clear h
  go_enter Try.func20, Try.ntmps20
  go_wp2_with fail
  refine H.out.mono ?_
  rintro e w1 ⟨rfl, hw⟩; obtain rfl := hw.symm
  go_wp2_with fail
  go_ret
  exact ⟨rfl, rfl⟩
end Go.Proofs.Ytjggpchjfglgcaa
