/- What semaphores and barriers do: New, Try, Post, Wait; come, behind. -/
import Derived.Test.YtpkaeanagdhmiaaSm
namespace Go.Proofs.Ytpkaeanagdhmiaa
open Go.RowKit Go.Shelf Go.Lib Go.Sort Go.Maps
attribute [local go_sem] Oper.semAt_some

theorem put_same {L : List Dl} {t p : Int} (h : putE L t p ≠ 0) : putL L t p = L := by
  unfold putE at h
  unfold putL
  split
  · rename_i hm
    rw [if_pos hm] at h
    split
    · rfl
    · rename_i hn
      rw [if_neg hn] at h
      exact absurd rfl h
  · rfl
/-- What Wait answers, and leaves. -/
def waB (v : Int) (L : List Dl) (t p : Int) : Bool := decide (putE L t p = 0) && decide (0 < v)
def waV (v : Int) (L : List Dl) (t p : Int) : Int := if waB v L t p then v - 1 else v
def waL (v : Int) (L : List Dl) (t p : Int) : List Dl := if 0 < v then L else putL L t p
/-- What Post answers, and leaves. -/
noncomputable def poT (L : List Dl) : Int := if fstB L then fstT L else -1
noncomputable def poE (v : Int) (L : List Dl) : Int := if fstB L then 0 else if v = 32767 then 5 else 0
noncomputable def poV (v : Int) (L : List Dl) : Int := if fstB L then v else if v = 32767 then v else v + 1
/-- What a barrier's Wait answers, and leaves. -/
noncomputable def baO (n : Int) (L : List Dl) (t p : Int) : List Int := if putE L t p = 0 ∧ n ≤ L.length + 1 then (ordL L).map (·.1) ++ [t] else []
def baL (n : Int) (L : List Dl) (t p : Int) : List Dl := if putE L t p = 0 ∧ n ≤ L.length + 1 then [] else putL L t p
/-- What holds between calls. -/
structure Sok (v : Int) (L : List Dl) : Prop where
  lo : 0 ≤ v
  hi : v ≤ 32767
  no : 0 < v → L = []
structure Bok (n : Int) (L : List Dl) : Prop where
  lo : 1 ≤ n
  hi : n ≤ 16
  few : (L.length : Int) < n
/-- Clear: the list's blocks are among those that were. -/
theorem Wr.clr {w : World} {wb : Nat} {R : List Nat} {L : List Dl} (h : Wr w wb R L) : Calls Try.prog 72 #[.pointer (some ⟨wb, 0, none⟩)] w fun e w' => (∃ v, e = .returned v ∧ Ns w' w.heap.size v ((ordL L).map (·.1))) ∧ ∃ R', Wr w' wb R' [] ∧ (∀ k ∈ R', k ∈ R) ∧ Kp w w' R := by
  obtain ⟨pb, V, rfl, h⟩ := h
  refine (clear_any w wb pb V L h).mono ?_
  rintro e w' ⟨hn, V', h1, h2, h3⟩
  refine ⟨hn, _, ⟨pb, V', rfl, h1⟩, fun k hk => ?_, h3⟩
  simp only [rows, List.mem_cons, Option.mem_toList] at hk ⊢
  rcases hk with e | e | e
  · exact .inl e
  · exact .inr (.inl e)
  · exact .inr (.inr (h2 k e))
set_option maxRecDepth 100000 in
theorem behind_any (w : World) (base : Nat) (v : Value) (l : List Int) (g : Nat) (x : Int) (hv : Ns w base v l) (hg : w.cell? ⟨g, 0, none⟩ = some (.int .i64 x)) (hl : l.length ≤ 100000) (hb : base ≤ w.heap.size) : Calls Try.prog 71 #[v, .slice (some ⟨g, 0, none⟩) 1 1] w fun e w' => ∃ y, e = .returned y ∧ Ns w' base y (l ++ [x]) ∧ Kp w w' v.ownBlock.toList := by
  obtain ⟨ao, cap, rfl⟩ := hv.slice
  obtain ⟨n, hn⟩ : ∃ n, l.length = n := ⟨_, rfl⟩
  rw [hn] at hv ⊢
  have HV := hid hv
  have HN := hid hn
  clear hv hn
  go_enter Try.func71, Try.ntmps71
  go_wp2_with (refine wpList_pushI rfl (.tmp 5) (.tmp 6) rfl base _ l x g rfl HV.out rfl hg hl hb ?_; intro y w1 h1 h2; have H1 := hid h1; have H2 := hid (Kp.ofGrown (rows := (Value.slice ao n cap).ownBlock.toList) h2 (by intro g hg; have hg' : (Value.slice ao n cap).ownBlock = some g := hg; simp [hg'])); clear h1 h2)
  go_ret
  exact ⟨y, rfl, H1.out, H2.out⟩
set_option maxRecDepth 100000 in
/-- come: refused. -/
theorem come_no (w : World) (wb : Nat) (R : List Nat) (L : List Dl) (t p : Int) (f : Value) (h : Wr w wb R L) (hE : putE L t p ≠ 0) : Calls Try.prog 53 #[.pointer (some ⟨wb, 0, none⟩), .int .i64 t, .int .i64 p, f] w fun e w' => e = .returned (.tuple #[.slice none 0 0, .int .i64 (putE L t p)]) ∧ w' = w := by
  have HR := hid (refusal_any w wb R L t p h)
  clear h
  generalize putE L t p = E at HR hE ⊢
  have he : (E != 0) = true := by simp [hE]
  clear hE
  go_enter Try.func53, Try.ntmps53
  go_wp2_with fail
  refine HR.out.mono ?_
  rintro e w1 ⟨rfl, hw⟩; obtain rfl := hw.symm
  go_wp2
  go_ret2
  exact ⟨rfl, rfl⟩
set_option maxRecDepth 100000 in
theorem come_nil (w : World) (t p : Int) (f : Value) : Calls Try.prog 53 #[.pointer none, .int .i64 t, .int .i64 p, f] w fun e w' => e = .returned (.tuple #[.slice none 0 0, .int .i64 1]) ∧ w' = w := by
  go_enter Try.func53, Try.ntmps53
  go_wp2_with fail
  refine (refusal_nil w t p).mono ?_
  rintro e w1 ⟨rfl, hw⟩; obtain rfl := hw.symm
  go_wp2
  go_ret2
  exact ⟨rfl, rfl⟩

set_option maxRecDepth 100000 in
/-- come: the thread waits. -/
theorem scome_wait (w : World) (wb sb : Nat) (R : List Nat) (L : List Dl) (t p : Int) (h : Wr w wb R L) (hE : putE L t p = 0) (hf : Calls Try.prog 29 #[.pointer (some ⟨sb, 0, none⟩)] w fun e w' => e = .returned (.bool false) ∧ w' = w) : Calls Try.prog 53 #[.pointer (some ⟨wb, 0, none⟩), .int .i64 t, .int .i64 p, .func (.func 29) #[.pointer (some ⟨sb, 0, none⟩)] #[]] w fun e w' => e = .returned (.tuple #[.slice none 0 0, .int .i64 0]) ∧ ∃ R', Wr w' wb R' (putL L t p) ∧ Nw w R R' ∧ Kp w w' R := by
  have HR := hid (refusal_any w wb R L t p h)
  have HP := hid (h.put t p)
  have HF := hid hf
  rw [hE] at HR HP
  clear h hE hf
  go_enter Try.func53, Try.ntmps53
  go_wp2_with fail
  refine HR.out.mono ?_
  rintro e w1 ⟨rfl, hw⟩; obtain rfl := hw.symm
  go_wp2_with fail
  refine HF.out.mono ?_
  rintro e w1 ⟨rfl, hw⟩; obtain rfl := hw.symm
  go_wp2_with fail
  refine HP.out.mono ?_
  rintro e w1 ⟨rfl, R1, h1, h2, h3⟩
  have HX := hid (show ∃ R', Wr w1 wb R' (putL L t p) ∧ Nw w R R' ∧ Kp w w1 R from ⟨R1, h1, h2, h3⟩)
  clear h1 h2 h3
  go_wp2
  go_ret2
  exact ⟨rfl, HX.out⟩
/-- What one that goes on leaves, behind the world W1. -/
def sOn (W1 w' : World) (wb : Nat) (R : List Nat) (L : List Dl) (t : Int) (x : Value) : Prop := Ns w' W1.heap.size x ((ordL L).map (·.1) ++ [t]) ∧ ∃ R', Wr w' wb R' [] ∧ (∀ k ∈ R', k ∈ R) ∧ Kp W1 w' R
set_option maxRecDepth 100000 in
/-- come: the thread goes on. -/
theorem scome_on (w W1 : World) (wb sb : Nat) (R : List Nat) (L : List Dl) (t p : Int) (h : Wr w wb R L) (h1 : Wr W1 wb R L) (hE : putE L t p = 0) (hf : Calls Try.prog 29 #[.pointer (some ⟨sb, 0, none⟩)] w fun e w' => e = .returned (.bool true) ∧ w' = W1) : Calls Try.prog 53 #[.pointer (some ⟨wb, 0, none⟩), .int .i64 t, .int .i64 p, .func (.func 29) #[.pointer (some ⟨sb, 0, none⟩)] #[]] w fun e w' => ∃ ao cap, e = .returned (.tuple #[.slice ao (L.length + 1) cap, .int .i64 0]) ∧ sOn W1 w' wb R L t (.slice ao (L.length + 1) cap) := by
  have HR := hid (refusal_any w wb R L t p h)
  have HP := hid h1.clr
  have HF := hid hf
  have hlen : ((ordL L).map (·.1)).length ≤ 100000 := by rw [List.length_map, ord_len h.ok]; have := h.ok.len; omega
  have HO := hid (show ((ordL L).map (·.1)).length = L.length by rw [List.length_map, ord_len h.ok])
  have HLT := hid h1.lt
  rw [hE] at HR
  clear h h1 hE hf
  obtain ⟨l, hl⟩ : ∃ l, (ordL L).map (·.1) = l := ⟨_, rfl⟩
  unfold sOn
  rw [hl] at HP hlen HO ⊢
  clear hl
  obtain ⟨n, hn⟩ : ∃ n, L.length = n := ⟨_, rfl⟩
  rw [hn] at HO ⊢
  clear hn
  go_enter Try.func53, Try.ntmps53
  go_wp2_with fail
  refine HR.out.mono ?_
  rintro e w1 ⟨rfl, hw⟩; obtain rfl := hw.symm
  go_wp2_with fail
  refine HF.out.mono ?_
  rintro e w1 ⟨rfl, hw⟩; obtain rfl := hw.symm
  go_wp2_with fail
  refine HP.out.mono ?_
  rintro e z1 ⟨⟨x, rfl, hx⟩, R1, h1, h2, h3⟩
  have ka := Kp.alloc z1 (.cells #[.int .i64 t] 3) []
  have HX := hid (hx.keep ka)
  have hs := h3.size
  have HB := hid (show W1.heap.size ≤ (z1.alloc (.cells #[.int .i64 t] 3)).heap.size by simp; omega)
  have HC := hid (show (z1.alloc (.cells #[.int .i64 t] 3)).cell? ⟨z1.heap.size, 0, none⟩ = some (.int .i64 t) by simp)
  have HW := hid (And.intro (h1.same ka) (And.intro h2 (h3.trans ka.nil)))
  clear hx h1 h2 h3 ka hs
  go_wp2_with fail
  refine (behind_any _ W1.heap.size x l z1.heap.size t HX.out HC.out hlen HB.out).mono ?_
  rintro e z2 ⟨y, rfl, hy, hk⟩
  have hfar : ∀ k ∈ x.ownBlock.toList, W1.heap.size ≤ k := fun k hm => by
    simp at hm
    exact (owns_block HX.out hm).1
  have FIN := hid (show Ns z2 W1.heap.size y (l ++ [t]) ∧ ∃ R', Wr z2 wb R' [] ∧ (∀ k ∈ R', k ∈ R) ∧ Kp W1 z2 R from
    ⟨hy, R1, HW.out.1.keep hk (fun k hm hn => by
      have := hfar k hn
      have := HLT.out k (HW.out.2.1 k hm)
      omega), HW.out.2.1, HW.out.2.2.past hk (fun k hm hl => by have := hfar k hm; omega)⟩)
  obtain ⟨ao, cap, rfl⟩ := hy.slice
  rw [show (l ++ [t]).length = n + 1 by rw [List.length_append, HO.out]; rfl] at FIN ⊢
  clear hy hk hfar HX HB HC HW
  go_wp2
  go_ret2
  exact ⟨ao, cap, rfl, FIN.out⟩

set_option maxRecDepth 100000 in
/-- come: the thread waits. -/
theorem bcome_wait (w : World) (wb sb : Nat) (R : List Nat) (L : List Dl) (t p : Int) (h : Wr w wb R L) (hE : putE L t p = 0) (hf : Calls Try.prog 57 #[.pointer (some ⟨sb, 0, none⟩)] w fun e w' => e = .returned (.bool false) ∧ w' = w) : Calls Try.prog 53 #[.pointer (some ⟨wb, 0, none⟩), .int .i64 t, .int .i64 p, .func (.func 57) #[.pointer (some ⟨sb, 0, none⟩)] #[]] w fun e w' => e = .returned (.tuple #[.slice none 0 0, .int .i64 0]) ∧ ∃ R', Wr w' wb R' (putL L t p) ∧ Nw w R R' ∧ Kp w w' R := by
  have HR := hid (refusal_any w wb R L t p h)
  have HP := hid (h.put t p)
  have HF := hid hf
  rw [hE] at HR HP
  clear h hE hf
  go_enter Try.func53, Try.ntmps53
  go_wp2_with fail
  refine HR.out.mono ?_
  rintro e w1 ⟨rfl, hw⟩; obtain rfl := hw.symm
  go_wp2_with fail
  refine HF.out.mono ?_
  rintro e w1 ⟨rfl, hw⟩; obtain rfl := hw.symm
  go_wp2_with fail
  refine HP.out.mono ?_
  rintro e w1 ⟨rfl, R1, h1, h2, h3⟩
  have HX := hid (show ∃ R', Wr w1 wb R' (putL L t p) ∧ Nw w R R' ∧ Kp w w1 R from ⟨R1, h1, h2, h3⟩)
  clear h1 h2 h3
  go_wp2
  go_ret2
  exact ⟨rfl, HX.out⟩
/-- What one that goes on leaves, behind the world W1. -/
def bOn (W1 w' : World) (wb : Nat) (R : List Nat) (L : List Dl) (t : Int) (x : Value) : Prop := Ns w' W1.heap.size x ((ordL L).map (·.1) ++ [t]) ∧ ∃ R', Wr w' wb R' [] ∧ (∀ k ∈ R', k ∈ R) ∧ Kp W1 w' R
set_option maxRecDepth 100000 in
/-- come: the thread goes on. -/
theorem bcome_on (w W1 : World) (wb sb : Nat) (R : List Nat) (L : List Dl) (t p : Int) (h : Wr w wb R L) (h1 : Wr W1 wb R L) (hE : putE L t p = 0) (hf : Calls Try.prog 57 #[.pointer (some ⟨sb, 0, none⟩)] w fun e w' => e = .returned (.bool true) ∧ w' = W1) : Calls Try.prog 53 #[.pointer (some ⟨wb, 0, none⟩), .int .i64 t, .int .i64 p, .func (.func 57) #[.pointer (some ⟨sb, 0, none⟩)] #[]] w fun e w' => ∃ ao cap, e = .returned (.tuple #[.slice ao (L.length + 1) cap, .int .i64 0]) ∧ bOn W1 w' wb R L t (.slice ao (L.length + 1) cap) := by
  have HR := hid (refusal_any w wb R L t p h)
  have HP := hid h1.clr
  have HF := hid hf
  have hlen : ((ordL L).map (·.1)).length ≤ 100000 := by rw [List.length_map, ord_len h.ok]; have := h.ok.len; omega
  have HO := hid (show ((ordL L).map (·.1)).length = L.length by rw [List.length_map, ord_len h.ok])
  have HLT := hid h1.lt
  rw [hE] at HR
  clear h h1 hE hf
  obtain ⟨l, hl⟩ : ∃ l, (ordL L).map (·.1) = l := ⟨_, rfl⟩
  unfold bOn
  rw [hl] at HP hlen HO ⊢
  clear hl
  obtain ⟨n, hn⟩ : ∃ n, L.length = n := ⟨_, rfl⟩
  rw [hn] at HO ⊢
  clear hn
  go_enter Try.func53, Try.ntmps53
  go_wp2_with fail
  refine HR.out.mono ?_
  rintro e w1 ⟨rfl, hw⟩; obtain rfl := hw.symm
  go_wp2_with fail
  refine HF.out.mono ?_
  rintro e w1 ⟨rfl, hw⟩; obtain rfl := hw.symm
  go_wp2_with fail
  refine HP.out.mono ?_
  rintro e z1 ⟨⟨x, rfl, hx⟩, R1, h1, h2, h3⟩
  have ka := Kp.alloc z1 (.cells #[.int .i64 t] 3) []
  have HX := hid (hx.keep ka)
  have hs := h3.size
  have HB := hid (show W1.heap.size ≤ (z1.alloc (.cells #[.int .i64 t] 3)).heap.size by simp; omega)
  have HC := hid (show (z1.alloc (.cells #[.int .i64 t] 3)).cell? ⟨z1.heap.size, 0, none⟩ = some (.int .i64 t) by simp)
  have HW := hid (And.intro (h1.same ka) (And.intro h2 (h3.trans ka.nil)))
  clear hx h1 h2 h3 ka hs
  go_wp2_with fail
  refine (behind_any _ W1.heap.size x l z1.heap.size t HX.out HC.out hlen HB.out).mono ?_
  rintro e z2 ⟨y, rfl, hy, hk⟩
  have hfar : ∀ k ∈ x.ownBlock.toList, W1.heap.size ≤ k := fun k hm => by
    simp at hm
    exact (owns_block HX.out hm).1
  have FIN := hid (show Ns z2 W1.heap.size y (l ++ [t]) ∧ ∃ R', Wr z2 wb R' [] ∧ (∀ k ∈ R', k ∈ R) ∧ Kp W1 z2 R from
    ⟨hy, R1, HW.out.1.keep hk (fun k hm hn => by
      have := hfar k hn
      have := HLT.out k (HW.out.2.1 k hm)
      omega), HW.out.2.1, HW.out.2.2.past hk (fun k hm hl => by have := hfar k hm; omega)⟩)
  obtain ⟨ao, cap, rfl⟩ := hy.slice
  rw [show (l ++ [t]).length = n + 1 by rw [List.length_append, HO.out]; rfl] at FIN ⊢
  clear hy hk hfar HX HB HC HW
  go_wp2
  go_ret2
  exact ⟨ao, cap, rfl, FIN.out⟩

/-! ### Semaphores -/
set_option maxRecDepth 100000 in
theorem snew (w : World) (v : Int) (h0 : 0 ≤ v) (h1 : v ≤ 32767) : Calls Try.prog 8 #[.int .i64 v] w fun e w' => ∃ sb R, e = .returned (.tuple #[.pointer (some ⟨sb, 0, none⟩), .int .i64 0]) ∧ Sm 74 w' sb R v [] ∧ (∀ k ∈ R, w.heap.size ≤ k) ∧ Kp w w' [] := by
  have g0 : ¬ v < 0 := by omega
  have g1 : ¬ 32767 < v := by omega
  go_enter Try.func8, Try.ntmps8
  go_wp2_with fail
  refine (new_any w).mono ?_
  rintro e z1 ⟨wb, pb, rfl, hw, h2, h3, hk⟩
  have ka := Kp.alloc z1 (.cells #[.pointer (some ⟨wb, 0, none⟩), .int .i64 v] 74) []
  have hs := hk.size
  have HX := hid (show Sm 74 (z1.alloc (.cells #[.pointer (some ⟨wb, 0, none⟩), .int .i64 v] 74)) z1.heap.size (z1.heap.size :: rows wb pb (.slice none 0 0)) v [] ∧ (∀ k ∈ z1.heap.size :: rows wb pb (.slice none 0 0), w.heap.size ≤ k) ∧ Kp w (z1.alloc (.cells #[.pointer (some ⟨wb, 0, none⟩), .int .i64 v] 74)) [] from
    ⟨⟨by simp, wb, _, rfl, heap_alloc_new z1 _, ⟨pb, _, rfl, hw.same ka⟩⟩, fun k hm => by simp [rows, Value.ownBlock] at hm; omega, hk.trans ka⟩)
  clear hw h2 h3 hk ka hs
  go_wp2
  go_ret2
  exact ⟨_, _, rfl, HX.out⟩
set_option maxRecDepth 100000 in
theorem snew_no (w : World) (v : Int) (h : v < 0 ∨ 32767 < v) : Calls Try.prog 8 #[.int .i64 v] w fun e w' => e = .returned (.tuple #[.pointer none, .int .i64 2]) ∧ w' = w := by
  by_cases g0 : v < 0
  · clear h
    go_enter Try.func8, Try.ntmps8
    go_wp2
    go_ret2
    exact ⟨rfl, rfl⟩
  · have g1 : 32767 < v := by omega
    clear h
    go_enter Try.func8, Try.ntmps8
    go_wp2
    go_ret2
    exact ⟨rfl, rfl⟩
set_option maxRecDepth 100000 in
theorem stry_no (w : World) (p : Option Addr) (R : List Nat) (L : List Dl) (h : Sv 74 w p R 0 L) : Calls Try.prog 29 #[.pointer p] w fun e w' => e = .returned (.bool false) ∧ w' = w := by
  have HV := hid (sval w p R 0 L h)
  clear h
  go_enter Try.func29, Try.ntmps29
  go_wp2_with fail
  refine HV.out.mono ?_
  rintro e w1 ⟨rfl, hw⟩; obtain rfl := hw.symm
  go_wp2
  go_ret
  exact ⟨rfl, rfl⟩
set_option maxRecDepth 100000 in
theorem stry_yes (w : World) (sb : Nat) (R : List Nat) (v : Int) (L : List Dl) (h : Sm 74 w sb R v L) (h0 : 0 < v) (h1 : v ≤ 32767) : Calls Try.prog 29 #[.pointer (some ⟨sb, 0, none⟩)] w fun e w' => e = .returned (.bool true) ∧ w' = w.setCell ⟨sb, 1, none⟩ (.int .i64 (v - 1)) := by
  have HV := hid (sval w _ R v L h.sv)
  obtain ⟨-, wb, R0, -, hb, -⟩ := h
  have c1 := cell_two1 hb
  have f1 := free_two hb 1
  have hz : (v == 0) = false := by simp; omega
  have hwr : IntKind.i64.wrap (v - 1) = v - 1 := IntWalk.i64_in _ ⟨by omega, by omega⟩
  clear hb
  go_enter Try.func29, Try.ntmps29
  go_wp2_with fail
  refine HV.out.mono ?_
  rintro e w1 ⟨rfl, hw⟩; obtain rfl := hw.symm
  go_wp2
  go_ret
  exact ⟨rfl, rfl⟩
/-- Try. -/
theorem stry (w : World) (sb : Nat) (R : List Nat) (v : Int) (L : List Dl) (h : Sm 74 w sb R v L) (hv : Sok v L) : Calls Try.prog 29 #[.pointer (some ⟨sb, 0, none⟩)] w fun e w' => e = .returned (.bool (decide (0 < v))) ∧ To 74 w w' sb R (if 0 < v then v - 1 else v) L := by
  by_cases h0 : 0 < v
  · rw [decide_eq_true h0, if_pos h0]
    refine (stry_yes w sb R v L h h0 hv.hi).mono ?_
    rintro e w' ⟨rfl, rfl⟩
    exact ⟨rfl, to_of_set h _⟩
  · rw [decide_eq_false h0, if_neg h0]
    have : v = 0 := by have := hv.lo; omega
    subst this
    refine (stry_no w _ R L h.sv).mono ?_
    rintro e w' ⟨rfl, rfl⟩
    exact ⟨rfl, To.stay h (Kp.refl _ _)⟩
theorem take_none {L : List Dl} (h : fstB L = false) : takeL L = L := by unfold takeL; rw [h]; rfl
set_option maxRecDepth 100000 in
/-- Post. -/
theorem spost (w : World) (sb : Nat) (R : List Nat) (v : Int) (L : List Dl) (h : Sm 74 w sb R v L) (hv : Sok v L) : Calls Try.prog 30 #[.pointer (some ⟨sb, 0, none⟩)] w fun e w' => e = .returned (.tuple #[.int .i64 (poT L), .int .i64 (poE v L)]) ∧ To 74 w w' sb R (poV v L) (takeL L) := by
  have hm := h
  obtain ⟨hT, wb, R0, rfl, hb, hw⟩ := h
  have HQ := hid (swaiting hb)
  have HK := hid hw.take
  have HT := hid (fun (w' : World) (R1 : List Nat) (h1 : Wr w' wb R1 (takeL L)) (hn : Nw w R0 R1) (hk : Kp w w' R0) => to_of_wr hT hb hw h1 hn hk)
  have c0 := cell_two0 hb
  have c1 := cell_two1 hb
  have C1 := hid (fun (w' : World) (hk : Kp w w' R0) => hk.cell c1 (fun hm => hw.notT hT sb hm _ hb))
  clear hb hw hT c1 hm
  unfold poT poE poV
  cases hB : fstB L
  · simp only [Bool.false_eq_true, if_false]
    rw [hB] at HK
    clear hB
    by_cases h7 : v = 32767
    · rw [if_pos h7, if_pos h7]
      have he : (v == 32767) = true := by simp [h7]
      clear h7
      go_enter Try.func30, Try.ntmps30
      go_wp2_with fail
      refine HQ.out.mono ?_
      rintro e w1 ⟨rfl, hw⟩; obtain rfl := hw.symm
      go_wp2_with fail
      refine HK.out.mono ?_
      rintro e w1 ⟨rfl, R1, h1, h2, h3⟩
      have HX := hid (HT.out w1 R1 h1 h2 h3)
      have d1 := C1.out w1 h3
      clear h1 h2 h3 c0
      go_wp2
      go_ret2
      exact ⟨rfl, HX.out⟩
    · rw [if_neg h7, if_neg h7]
      have he : (v == 32767) = false := by simp [h7]
      have hwr : IntKind.i64.wrap (v + 1) = v + 1 := (by have := hv.lo; have := hv.hi; exact IntWalk.i64_in _ ⟨by omega, by omega⟩)
      clear h7 hv
      go_enter Try.func30, Try.ntmps30
      go_wp2_with fail
      refine HQ.out.mono ?_
      rintro e w1 ⟨rfl, hw⟩; obtain rfl := hw.symm
      go_wp2_with fail
      refine HK.out.mono ?_
      rintro e w1 ⟨rfl, R1, h1, h2, h3⟩
      have hX := HT.out w1 R1 h1 h2 h3
      have HX := hid hX
      have d1 := C1.out w1 h3
      have f1 : w1.frozen? ⟨sb, 1, none⟩ = false := by
        obtain ⟨R2, ⟨-, wb2, R3, -, hb2, -⟩, -⟩ := hX
        exact free_two hb2 1
      clear h1 h2 h3 c0 hX
      go_wp2
      go_ret2
      exact ⟨rfl, HX.out.trans fun R1 s => to_of_set s _⟩
  · rw [if_pos rfl, if_pos rfl, if_pos rfl]
    rw [hB] at HK
    clear hB
    generalize fstT L = F at HK ⊢
    go_enter Try.func30, Try.ntmps30
    go_wp2_with fail
    refine HQ.out.mono ?_
    rintro e w1 ⟨rfl, hw⟩; obtain rfl := hw.symm
    go_wp2_with fail
    refine HK.out.mono ?_
    rintro e w1 ⟨rfl, R1, h1, h2, h3⟩
    have HX := hid (HT.out w1 R1 h1 h2 h3)
    clear h1 h2 h3 c0
    go_wp2
    go_ret2
    exact ⟨rfl, HX.out⟩
set_option maxRecDepth 100000 in
theorem spost_no (w : World) (p : Option Addr) (h : Zs 74 w p) : Calls Try.prog 30 #[.pointer p] w fun e w' => e = .returned (.tuple #[.int .i64 (-1), .int .i64 1]) ∧ w' = w := by
  have HQ := hid (swaiting_no h)
  clear h
  go_enter Try.func30, Try.ntmps30
  go_wp2_with fail
  refine HQ.out.mono ?_
  rintro e w1 ⟨rfl, hw⟩; obtain rfl := hw.symm
  go_wp2
  go_ret2
  exact ⟨rfl, rfl⟩
set_option maxRecDepth 100000 in
/-- Wait, out of what come answers. -/
theorem swait_of (w : World) (sb wb : Nat) (v : Int) (t p : Int) (hb : w.heap[sb]? = some (.cells #[.pointer (some ⟨wb, 0, none⟩), .int .i64 v] 74 (0, 0))) (B : Bool) (E : Int) (Q : World → Prop)
    (hc : Calls Try.prog 53 #[.pointer (some ⟨wb, 0, none⟩), .int .i64 t, .int .i64 p, .func (.func 29) #[.pointer (some ⟨sb, 0, none⟩)] #[]] w fun e w' => ∃ ao n cap, e = .returned (.tuple #[.slice ao n cap, .int .i64 E]) ∧ decide ((0 : Int) < (n : Nat)) = B ∧ Q w') :
    Calls Try.prog 28 #[.pointer (some ⟨sb, 0, none⟩), .int .i64 t, .int .i64 p] w fun e w' => e = .returned (.tuple #[.bool B, .int .i64 E]) ∧ Q w' := by
  have HQ := hid (swaiting hb)
  have HC := hid hc
  clear hb hc
  go_enter Try.func28, Try.ntmps28
  go_wp2_with fail
  refine HQ.out.mono ?_
  rintro e w1 ⟨rfl, hw⟩; obtain rfl := hw.symm
  go_wp2_with fail
  refine HC.out.mono ?_
  rintro e w1 ⟨ao, n, cap, rfl, hn, hq⟩
  have HX := hid (And.intro hn hq)
  clear hn hq
  go_wp2
  go_ret2
  exact ⟨by rw [← HX.out.1]; simp, HX.out.2⟩
/-- Wait. -/
theorem swait (w : World) (sb : Nat) (R : List Nat) (v : Int) (L : List Dl) (t p : Int) (h : Sm 74 w sb R v L) (hv : Sok v L) : Calls Try.prog 28 #[.pointer (some ⟨sb, 0, none⟩), .int .i64 t, .int .i64 p] w fun e w' => e = .returned (.tuple #[.bool (waB v L t p), .int .i64 (putE L t p)]) ∧ To 74 w w' sb R (waV v L t p) (waL v L t p) := by
  have hm := h
  obtain ⟨hT, wb, R0, rfl, hb, hw⟩ := h
  refine swait_of w sb wb v t p hb _ _ _ ?_
  unfold waV waL waB
  by_cases hE : putE L t p = 0
  · by_cases h0 : 0 < v
    · have hL := hv.no h0
      subst hL
      have hT1 := to_of_set hm (v - 1)
      obtain ⟨R1, ⟨-, wb1, R01, e1, hb1, hw1⟩, hn1, hk1⟩ := hT1
      have hkw : Wr (w.setCell ⟨sb, 1, none⟩ (.int .i64 (v - 1))) wb R0 [] := hw.keep (Kp.setCell w _ _) (fun k hk e => by
        simp at e
        subst e
        exact hw.notT hT k hk _ hb)
      refine (scome_on w _ wb sb R0 [] t p hw hkw hE (stry_yes w sb _ v [] hm h0 hv.hi)).mono ?_
      rintro e w' ⟨ao, cap, rfl, -, R2, hw2, hn2, hk2⟩
      refine ⟨ao, _, cap, by rw [hE], by simp [h0, hE], ?_⟩
      rw [if_pos (by simp [h0, hE]), if_pos h0]
      refine (to_of_set hm (v - 1)).trans fun R' hs => ?_
      obtain ⟨-, wb3, R03, rfl, hb3, hw3⟩ := hs
      have eb := set_two1 hb (x := .int .i64 (v - 1))
      rw [eb] at hb3
      simp at hb3
      subst hb3
      have eR : R03 = R0 ∨ True := .inr trivial
      clear eR
      obtain ⟨R4, s4, n4, k4⟩ := to_of_wr (T := 74) (sb := sb) hT eb hkw hw2 (fun k hk => .inl (hn2 k hk)) hk2
      obtain ⟨pb, V, er, hwt⟩ := hw3
      obtain ⟨pb', V', er', hwt'⟩ := hkw
      have e5 := hwt.hh
      rw [hwt'.hh] at e5
      simp at e5
      obtain ⟨rfl, rfl⟩ := e5
      subst er er'
      exact ⟨R4, s4, n4, k4⟩
    · have hz : v = 0 := by have := hv.lo; omega
      subst hz
      refine (scome_wait w wb sb R0 L t p hw hE (stry_no w _ _ L hm.sv)).mono ?_
      rintro e w' ⟨rfl, R1, h1, h2, h3⟩
      refine ⟨none, 0, 0, by rw [hE], by simp, ?_⟩
      simp only [Int.lt_irrefl, decide_false, Bool.and_false, if_false, Bool.false_eq_true]
      exact to_of_wr hT hb hw h1 h2 h3
  · refine (come_no w wb R0 L t p _ hw hE).mono ?_
    rintro e w' ⟨rfl, rfl⟩
    refine ⟨none, 0, 0, rfl, by simp [hE], ?_⟩
    rw [put_same hE, ite_self, if_neg (by simp [hE])]
    exact To.stay hm (Kp.refl _ _)
theorem swait_no (w : World) (p : Option Addr) (t q : Int) (h : Zs 74 w p) : Calls Try.prog 28 #[.pointer p, .int .i64 t, .int .i64 q] w fun e w' => e = .returned (.tuple #[.bool false, .int .i64 1]) ∧ w' = w := by
  have HQ := hid (swaiting_no h)
  clear h
  go_enter Try.func28, Try.ntmps28
  go_wp2_with fail
  refine HQ.out.mono ?_
  rintro e w1 ⟨rfl, hw⟩; obtain rfl := hw.symm
  go_wp2_with fail
  refine (come_nil w t q _).mono ?_
  rintro e w1 ⟨rfl, hw⟩; obtain rfl := hw.symm
  go_wp2
  go_ret2
  exact ⟨rfl, rfl⟩

/-! ### Barriers -/
set_option maxRecDepth 100000 in
theorem bnew (w : World) (v : Int) (h0 : 1 ≤ v) (h1 : v ≤ 16) : Calls Try.prog 18 #[.int .i64 v] w fun e w' => ∃ sb R, e = .returned (.tuple #[.pointer (some ⟨sb, 0, none⟩), .int .i64 0]) ∧ Sm 76 w' sb R v [] ∧ (∀ k ∈ R, w.heap.size ≤ k) ∧ Kp w w' [] := by
  have g0 : ¬ v < 1 := by omega
  have g1 : ¬ 16 < v := by omega
  go_enter Try.func18, Try.ntmps18
  go_wp2_with fail
  refine (new_any w).mono ?_
  rintro e z1 ⟨wb, pb, rfl, hw, h2, h3, hk⟩
  have ka := Kp.alloc z1 (.cells #[.pointer (some ⟨wb, 0, none⟩), .int .i64 v] 76) []
  have hs := hk.size
  have HX := hid (show Sm 76 (z1.alloc (.cells #[.pointer (some ⟨wb, 0, none⟩), .int .i64 v] 76)) z1.heap.size (z1.heap.size :: rows wb pb (.slice none 0 0)) v [] ∧ (∀ k ∈ z1.heap.size :: rows wb pb (.slice none 0 0), w.heap.size ≤ k) ∧ Kp w (z1.alloc (.cells #[.pointer (some ⟨wb, 0, none⟩), .int .i64 v] 76)) [] from
    ⟨⟨by simp, wb, _, rfl, heap_alloc_new z1 _, ⟨pb, _, rfl, hw.same ka⟩⟩, fun k hm => by simp [rows, Value.ownBlock] at hm; omega, hk.trans ka⟩)
  clear hw h2 h3 hk ka hs
  go_wp2
  go_ret2
  exact ⟨_, _, rfl, HX.out⟩
set_option maxRecDepth 100000 in
theorem bnew_no (w : World) (v : Int) (h : v < 1 ∨ 16 < v) : Calls Try.prog 18 #[.int .i64 v] w fun e w' => e = .returned (.tuple #[.pointer none, .int .i64 2]) ∧ w' = w := by
  by_cases g0 : v < 1
  · clear h
    go_enter Try.func18, Try.ntmps18
    go_wp2
    go_ret2
    exact ⟨rfl, rfl⟩
  · have g1 : 16 < v := by omega
    clear h
    go_enter Try.func18, Try.ntmps18
    go_wp2
    go_ret2
    exact ⟨rfl, rfl⟩
set_option maxRecDepth 100000 in
theorem blacks (w : World) (sb : Nat) (R : List Nat) (n : Int) (L : List Dl) (h : Sm 76 w sb R n L) (hv : Bok n L) (B : Bool) (hB : decide ((L.length : Int) = n - 1) = B) : Calls Try.prog 57 #[.pointer (some ⟨sb, 0, none⟩)] w fun e w' => e = .returned (.bool B) ∧ w' = w := by
  have HL := hid (blen w _ R n L h.sv)
  have HV := hid (bval w _ R n L h.sv)
  have hwr : IntKind.i64.wrap (n - 1) = n - 1 := (by have := hv.lo; have := hv.hi; exact IntWalk.i64_in _ ⟨by omega, by omega⟩)
  have HB := hid hB
  generalize L.length = N at HL HB
  clear h hv hB
  go_enter Try.func57, Try.ntmps57
  go_wp2_with fail
  refine HL.out.mono ?_
  rintro e w1 ⟨rfl, hw⟩; obtain rfl := hw.symm
  go_wp2_with fail
  refine HV.out.mono ?_
  rintro e w1 ⟨rfl, hw⟩; obtain rfl := hw.symm
  go_wp2
  go_ret
  exact ⟨by rw [← HB.out]; rfl, rfl⟩
set_option maxRecDepth 100000 in
theorem bwait_of (w : World) (sb wb : Nat) (v : Int) (t p : Int) (hb : w.heap[sb]? = some (.cells #[.pointer (some ⟨wb, 0, none⟩), .int .i64 v] 76 (0, 0))) (E : Int) (Q : Value → World → Prop)
    (hc : Calls Try.prog 53 #[.pointer (some ⟨wb, 0, none⟩), .int .i64 t, .int .i64 p, .func (.func 57) #[.pointer (some ⟨sb, 0, none⟩)] #[]] w fun e w' => ∃ x, e = .returned (.tuple #[x, .int .i64 E]) ∧ Q x w') :
    Calls Try.prog 33 #[.pointer (some ⟨sb, 0, none⟩), .int .i64 t, .int .i64 p] w fun e w' => ∃ x, e = .returned (.tuple #[x, .int .i64 E]) ∧ Q x w' := by
  have HQ := hid (bwaiting hb)
  have HC := hid hc
  clear hb hc
  go_enter Try.func33, Try.ntmps33
  go_wp2_with fail
  refine HQ.out.mono ?_
  rintro e w1 ⟨rfl, hw⟩; obtain rfl := hw.symm
  go_wp2_with fail
  refine HC.out.mono ?_
  rintro e w1 ⟨x, rfl, hq⟩
  have HX := hid hq
  clear hq
  go_wp2
  go_ret2
  exact ⟨x, rfl, HX.out⟩
/-- Wait. -/
theorem bwait (w : World) (sb : Nat) (R : List Nat) (n : Int) (L : List Dl) (t p : Int) (h : Sm 76 w sb R n L) (hv : Bok n L) : Calls Try.prog 33 #[.pointer (some ⟨sb, 0, none⟩), .int .i64 t, .int .i64 p] w fun e w' => ∃ x, e = .returned (.tuple #[x, .int .i64 (putE L t p)]) ∧ Ns w' w.heap.size x (baO n L t p) ∧ ∃ R', Sm 76 w' sb R' n (baL n L t p) ∧ Nw w R R' ∧ Kp w w' R ∧ ∀ g, x.ownBlock = some g → g ∉ R' := by
  have hm := h
  obtain ⟨hT, wb, R0, rfl, hb, hw⟩ := h
  refine bwait_of w sb wb n t p hb _ (fun x w' => Ns w' w.heap.size x (baO n L t p) ∧ ∃ R', Sm 76 w' sb R' n (baL n L t p) ∧ Nw w (sb :: R0) R' ∧ Kp w w' (sb :: R0) ∧ ∀ g, x.ownBlock = some g → g ∉ R') ?_
  unfold baO baL
  by_cases hE : putE L t p = 0
  · by_cases h0 : n ≤ L.length + 1
    · rw [if_pos ⟨hE, h0⟩, if_pos ⟨hE, h0⟩]
      refine (bcome_on w w wb sb R0 L t p hw hw hE (blacks w sb _ n L hm hv true (by have := hv.few; simp; omega))).mono ?_
      rintro e w' ⟨ao, cap, rfl, hx, R2, hw2, hn2, hk2⟩
      obtain ⟨R4, s4, n4, k4⟩ := to_of_wr (T := 76) (sb := sb) hT hb hw hw2 (fun k hk => .inl (hn2 k hk)) hk2
      refine ⟨_, by rw [hE], hx, sb :: R2, ?_, ?_, k4, ?_⟩
      · exact ⟨hT, wb, R2, rfl, (hk2.block sb (lt_of_block hb) (fun hm => hw.notT hT sb hm _ hb)).trans hb, hw2⟩
      · intro k hk
        rcases List.mem_cons.1 hk with rfl | hk
        · exact .inl (by simp)
        · exact .inl (by simp [hn2 k hk])
      · intro g hg hk
        have h5 := (owns_block hx hg).1
        rcases List.mem_cons.1 hk with rfl | hk
        · have := lt_of_block hb; omega
        · have := hw.lt g (hn2 g hk); omega
    · rw [if_neg (fun h => h0 h.2), if_neg (fun h => h0 h.2)]
      refine (bcome_wait w wb sb R0 L t p hw hE (blacks w sb _ n L hm hv false (by simp; omega))).mono ?_
      rintro e w' ⟨rfl, R1, h1, h2, h3⟩
      obtain ⟨R4, s4, n4, k4⟩ := to_of_wr (T := 76) (sb := sb) hT hb hw h1 h2 h3
      exact ⟨_, by rw [hE], Ns.nil _ _, R4, s4, n4, k4, fun g hg => by simp [Value.ownBlock] at hg⟩
  · rw [if_neg (fun h => hE h.1), if_neg (fun h => hE h.1), put_same hE]
    refine (come_no w wb R0 L t p _ hw hE).mono ?_
    rintro e w' ⟨rfl, rfl⟩
    exact ⟨_, rfl, Ns.nil _ _, _, hm, Nw.refl _ _, Kp.refl _ _, fun g hg => by simp [Value.ownBlock] at hg⟩
set_option maxRecDepth 100000 in
theorem bwait_no (w : World) (p : Option Addr) (t q : Int) (h : Zs 76 w p) : Calls Try.prog 33 #[.pointer p, .int .i64 t, .int .i64 q] w fun e w' => e = .returned (.tuple #[.slice none 0 0, .int .i64 1]) ∧ w' = w := by
  have HQ := hid (bwaiting_no h)
  clear h
  go_enter Try.func33, Try.ntmps33
  go_wp2_with fail
  refine HQ.out.mono ?_
  rintro e w1 ⟨rfl, hw⟩; obtain rfl := hw.symm
  go_wp2_with fail
  refine (come_nil w t q _).mono ?_
  rintro e w1 ⟨rfl, hw⟩; obtain rfl := hw.symm
  go_wp2
  go_ret2
  exact ⟨rfl, rfl⟩
end Go.Proofs.Ytpkaeanagdhmiaa
