/- New; what changes a graph: Base, Ceiling, Waits. -/
import Derived.Test.YtomdnppnabncaaaGr
namespace Go.Proofs.Ytomdnppnabncaaa
open Go.RowKit Go.Shelf
open Go.Lib hiding intOf

set_option maxRecDepth 100000 in
theorem new_no0 (w : World) (k : Int) (hk : ¬ (1 ≤ k ∧ k ≤ 16)) : Calls Try.prog 8 #[.int .i64 k] w fun e w' => e = .returned (.tuple #[.pointer none, .int .i64 2]) ∧ Kp w w' [] := by
  by_cases h : k < 1
  · clear hk
    go_enter Try.func8, Try.ntmps8
    go_wp2
    go_ret2
    exact ⟨rfl, Kp.refl _ _⟩
  · have h2 : 16 < k := by omega
    clear hk
    go_enter Try.func8, Try.ntmps8
    go_wp2
    go_ret2
    exact ⟨rfl, Kp.refl _ _⟩
/-- The first k wait for nobody. -/
def hf (k : Nat) : Nat → Int := fun t => if t < k then -1 else 0
theorem hf_step (k : Nat) : upd (hf k) k (-1) = hf (k + 1) := by
  funext t
  unfold upd hf
  by_cases e : t = k
  · rw [if_pos e, if_pos (by omega)]
  · rw [if_neg e]
    by_cases e1 : t < k
    · rw [if_pos e1, if_pos (by omega)]
    · rw [if_neg e1, if_neg (by omega)]
theorem gc_new (w : World) (n : Nat) : Gc (w.alloc (.cells #[.int .i64 (n : Nat), .int .i64 0, .int .i64 0, .int .i64 0, .int .i64 0, .int .i64 0, .int .i64 0, .int .i64 0, .int .i64 0, .int .i64 0, .int .i64 0, .int .i64 0, .int .i64 0, .int .i64 0, .int .i64 0, .int .i64 0, .int .i64 0, .int .i64 0, .int .i64 0, .int .i64 0, .int .i64 0, .int .i64 0, .int .i64 0, .int .i64 0, .int .i64 0, .int .i64 0, .int .i64 0, .int .i64 0, .int .i64 0, .int .i64 0, .int .i64 0, .int .i64 0, .int .i64 0, .int .i64 0, .int .i64 0, .int .i64 0, .int .i64 0, .int .i64 0, .int .i64 0, .int .i64 0, .int .i64 0, .int .i64 0, .int .i64 0, .int .i64 0, .int .i64 0, .int .i64 0, .int .i64 0, .int .i64 0, .int .i64 0] 54)) w.heap.size n (fun _ => 0) (fun _ => 0) (hf 0) := World.alloc_heap_new w _
theorem gr_new {w : World} {gb n : Nat} (h1 : 1 ≤ n) (h2 : n ≤ 16) (h : Gc w gb n (fun _ => 0) (fun _ => 0) (hf n)) : Gr0 w gb (newG n) := ⟨h, ok_new h1 h2, fun _ _ _ => ⟨rfl, rfl, rfl⟩⟩
set_option maxRecDepth 100000 in
theorem new_ok0 (w : World) (n : Nat) (h1 : 1 ≤ n) (h2 : n ≤ 16) : Calls Try.prog 8 #[.int .i64 n] w fun e w' => (∃ gb, e = .returned (.tuple #[.pointer (some ⟨gb, 0, none⟩), .int .i64 0]) ∧ w.heap.size ≤ gb ∧ Gr0 w' gb (newG n)) ∧ Kp w w' [] := by
  have h1' : (1 : Int) ≤ n := by omega
  have h2' : (n : Int) ≤ 16 := by omega
  have H0 := hid (gc_new w n)
  go_enter Try.func8, Try.ntmps8
  go_wp2_with fail
  go_loopw [16] (fun vi wr => ∃ k : Nat, k ≤ n ∧ vi = .int .i64 k ∧ Hid (Gc wr w.heap.size n (fun _ => 0) (fun _ => 0) (hf k) ∧ Kp w wr [])) (fun vi _ => n - (intOf vi).toNat)
  case atStart => exact ⟨0, by omega, rfl, hid ⟨H0.out, Kp.alloc _ _ _⟩⟩
  case round =>
    obtain ⟨k, hk, rfl, hR⟩ := hrel
    have h0 := hR.out.1
    by_cases hlt : k < n
    · have hltI : (k : Int) < n := by omega
      have c0 := h0.os (t := k) (by omega)
      have f0 := h0.free (1 + k * 3 + 2)
      have R2 := hid (show Gc (wr.setCell ⟨w.heap.size, 1 + k * 3 + 2, none⟩ (.int .i64 (-1))) w.heap.size n (fun _ => 0) (fun _ => 0) (hf (k + 1)) ∧ Kp w (wr.setCell ⟨w.heap.size, 1 + k * 3 + 2, none⟩ (.int .i64 (-1))) [] from
        ⟨hf_step k ▸ h0.setO (by omega) (-1), hR.out.2.past (Kp.setCell wr ⟨w.heap.size, 1 + k * 3 + 2, none⟩ _) (by intro j hj hl; simp at hj; omega)⟩)
      clear h0
      go_wp2_with fail
      go_roundw
      case rel => exact ⟨k + 1, by omega, by simp, R2⟩
      case measure => simp [intOf]; omega
    · have hltI : ¬ (k : Int) < n := by omega
      have e : k = n := by omega
      have R2 := hid (show Gr0 wr w.heap.size (newG n) ∧ Kp w wr [] from ⟨gr_new h1 h2 (e ▸ h0), hR.out.2⟩)
      clear h0 e
      go_wp2_with fail
      go_ret2
      exact ⟨⟨_, rfl, Nat.le_refl _, R2.out.1⟩, R2.out.2⟩
/-- A box that a closure has caught. -/
def Bxx (w : World) (pb : Nat) (x : Int) : Prop := w.heap[pb]? = some (.cells #[.int .i64 x] 3 (0, 0))
set_option maxRecDepth 100000 in
theorem change_zero (w : World) (p : Option Addr) (t : Int) (m : Bool) (v : Value) (h : Zg0 w p) : Calls Try.prog 30 #[.pointer p, .int .i64 t, .bool m, v] w fun e w' => e = .returned (.int .i64 1) ∧ w' = w := by
  have H := hid h
  clear h
  go_enter Try.func30, Try.ntmps30
  go_wp2_with (go_at_call 26; refine (zero_yes w p H.out).mono ?_; rintro e w1 ⟨rfl, rfl⟩)
  go_ret
  exact ⟨rfl, rfl⟩
set_option maxRecDepth 100000 in
theorem change_no (w : World) (gb : Nat) (G : Gs) (t : Int) (m : Bool) (v : Value) (h : Gr0 w gb G) (hn : ¬ (mayT G t ∧ m = true)) : Calls Try.prog 30 #[.pointer (some ⟨gb, 0, none⟩), .int .i64 t, .bool m, v] w fun e w' => e = .returned (.int .i64 2) ∧ w' = w := by
  have H := hid h
  clear h
  by_cases ht : mayT G t
  · have hm : m = false := by
      cases m with
      | false => rfl
      | true => exact (hn ⟨ht, rfl⟩).elim
    subst hm
    have hd : decide (mayT G t) = true := by simp [ht]
    have cm := may_any w gb G t H.out
    rw [hd] at cm
    have cm := hid cm
    have cz := hid (zero_no w gb G H.out)
    clear hn ht hd
    go_enter Try.func30, Try.ntmps30
    go_wp2_with (first | (go_at_call 26; refine cz.out.mono ?_; rintro e w1 ⟨rfl, rfl⟩) | (go_at_call 29; refine cm.out.mono ?_; rintro e w1 ⟨rfl, rfl⟩))
    go_ret
    exact ⟨rfl, rfl⟩
  · have hd : decide (mayT G t) = false := by simp [ht]
    have cm := may_any w gb G t H.out
    rw [hd] at cm
    have cm := hid cm
    have cz := hid (zero_no w gb G H.out)
    clear hn ht hd
    go_enter Try.func30, Try.ntmps30
    go_wp2_with (first | (go_at_call 26; refine cz.out.mono ?_; rintro e w1 ⟨rfl, rfl⟩) | (go_at_call 29; refine cm.out.mono ?_; rintro e w1 ⟨rfl, rfl⟩))
    go_ret
    exact ⟨rfl, rfl⟩
set_option maxRecDepth 100000 in
theorem cl32 (w : World) (gb n : Nat) (b c o : Nat → Int) (t pb : Nat) (x : Int) (h : Gc w gb n b c o) (ht : t < 16) (hp : Bxx w pb x) : Calls Try.prog 32 #[.pointer (some ⟨gb, 1 + t * 3, none⟩), .pointer (some ⟨pb, 0, none⟩)] w fun e w' => (∃ v, e = .returned v) ∧ w' = w.setCell ⟨gb, 1 + t * 3, none⟩ (.int .i64 x) := by
  have c1 := cell_one hp
  have c0 := h.bs ht
  have f0 := h.free (1 + t * 3)
  clear h hp
  go_enter Try.func32, Try.ntmps32
  go_wp2_with fail
  go_end0
  exact ⟨⟨_, rfl⟩, rfl⟩
set_option maxRecDepth 100000 in
theorem change32 (w : World) (gb : Nat) (G : Gs) (t pb : Nat) (x : Int) (h : Gr0 w gb G) (ht : t < G.n) (hp : Bxx w pb x) : Calls Try.prog 30 #[.pointer (some ⟨gb, 0, none⟩), .int .i64 t, .bool true, .func (.func 32) #[] #[.pointer (some ⟨pb, 0, none⟩)]] w fun e w' => e = .returned (.int .i64 0) ∧ w' = w.setCell ⟨gb, 1 + t * 3, none⟩ (.int .i64 x) := by
  have hd : decide (mayT G t) = true := by simp [mayT]; omega
  have cm := may_any w gb G t h
  rw [hd] at cm
  have cm := hid cm
  have cz := hid (zero_no w gb G h)
  have ht6 := h.n16 ht
  have ht6I : (t : Int) < 16 := by omega
  have HC := hid (cl32 w gb G.n G.b G.c (ow G) t pb x h.c ht6 hp)
  clear hd h ht hp
  go_enter Try.func30, Try.ntmps30
  go_wp2_with (first | (go_at_call 26; refine cz.out.mono ?_; rintro e w1 ⟨rfl, rfl⟩) | (go_at_call 29; refine cm.out.mono ?_; rintro e w1 ⟨rfl, rfl⟩) | (refine HC.out.mono ?_; rintro e w1 ⟨⟨v, rfl⟩, rfl⟩))
  go_ret
  exact ⟨rfl, rfl⟩
set_option maxRecDepth 100000 in
theorem cl33 (w : World) (gb n : Nat) (b c o : Nat → Int) (t pb : Nat) (x : Int) (h : Gc w gb n b c o) (ht : t < 16) (hp : Bxx w pb x) : Calls Try.prog 33 #[.pointer (some ⟨gb, 1 + t * 3, none⟩), .pointer (some ⟨pb, 0, none⟩)] w fun e w' => (∃ v, e = .returned v) ∧ w' = w.setCell ⟨gb, 1 + t * 3 + 1, none⟩ (.int .i64 x) := by
  have c1 := cell_one hp
  have c0 := h.cs ht
  have f0 := h.free (1 + t * 3 + 1)
  clear h hp
  go_enter Try.func33, Try.ntmps33
  go_wp2_with fail
  go_end0
  exact ⟨⟨_, rfl⟩, rfl⟩
set_option maxRecDepth 100000 in
theorem change33 (w : World) (gb : Nat) (G : Gs) (t pb : Nat) (x : Int) (h : Gr0 w gb G) (ht : t < G.n) (hp : Bxx w pb x) : Calls Try.prog 30 #[.pointer (some ⟨gb, 0, none⟩), .int .i64 t, .bool true, .func (.func 33) #[] #[.pointer (some ⟨pb, 0, none⟩)]] w fun e w' => e = .returned (.int .i64 0) ∧ w' = w.setCell ⟨gb, 1 + t * 3 + 1, none⟩ (.int .i64 x) := by
  have hd : decide (mayT G t) = true := by simp [mayT]; omega
  have cm := may_any w gb G t h
  rw [hd] at cm
  have cm := hid cm
  have cz := hid (zero_no w gb G h)
  have ht6 := h.n16 ht
  have ht6I : (t : Int) < 16 := by omega
  have HC := hid (cl33 w gb G.n G.b G.c (ow G) t pb x h.c ht6 hp)
  clear hd h ht hp
  go_enter Try.func30, Try.ntmps30
  go_wp2_with (first | (go_at_call 26; refine cz.out.mono ?_; rintro e w1 ⟨rfl, rfl⟩) | (go_at_call 29; refine cm.out.mono ?_; rintro e w1 ⟨rfl, rfl⟩) | (refine HC.out.mono ?_; rintro e w1 ⟨⟨v, rfl⟩, rfl⟩))
  go_ret
  exact ⟨rfl, rfl⟩
set_option maxRecDepth 100000 in
theorem cl34 (w : World) (gb n : Nat) (b c o : Nat → Int) (t pb : Nat) (x : Int) (h : Gc w gb n b c o) (ht : t < 16) (hp : Bxx w pb x) : Calls Try.prog 34 #[.pointer (some ⟨gb, 1 + t * 3, none⟩), .pointer (some ⟨pb, 0, none⟩)] w fun e w' => (∃ v, e = .returned v) ∧ w' = w.setCell ⟨gb, 1 + t * 3 + 2, none⟩ (.int .i64 x) := by
  have c1 := cell_one hp
  have c0 := h.os ht
  have f0 := h.free (1 + t * 3 + 2)
  clear h hp
  go_enter Try.func34, Try.ntmps34
  go_wp2_with fail
  go_end0
  exact ⟨⟨_, rfl⟩, rfl⟩
set_option maxRecDepth 100000 in
theorem change34 (w : World) (gb : Nat) (G : Gs) (t pb : Nat) (x : Int) (h : Gr0 w gb G) (ht : t < G.n) (hp : Bxx w pb x) : Calls Try.prog 30 #[.pointer (some ⟨gb, 0, none⟩), .int .i64 t, .bool true, .func (.func 34) #[] #[.pointer (some ⟨pb, 0, none⟩)]] w fun e w' => e = .returned (.int .i64 0) ∧ w' = w.setCell ⟨gb, 1 + t * 3 + 2, none⟩ (.int .i64 x) := by
  have hd : decide (mayT G t) = true := by simp [mayT]; omega
  have cm := may_any w gb G t h
  rw [hd] at cm
  have cm := hid cm
  have cz := hid (zero_no w gb G h)
  have ht6 := h.n16 ht
  have ht6I : (t : Int) < 16 := by omega
  have HC := hid (cl34 w gb G.n G.b G.c (ow G) t pb x h.c ht6 hp)
  clear hd h ht hp
  go_enter Try.func30, Try.ntmps30
  go_wp2_with (first | (go_at_call 26; refine cz.out.mono ?_; rintro e w1 ⟨rfl, rfl⟩) | (go_at_call 29; refine cm.out.mono ?_; rintro e w1 ⟨rfl, rfl⟩) | (refine HC.out.mono ?_; rintro e w1 ⟨⟨v, rfl⟩, rfl⟩))
  go_ret
  exact ⟨rfl, rfl⟩
set_option maxRecDepth 100000 in
theorem base0 (w : World) (gb : Nat) (G : Gs) (t p : Int) (h : Gr0 w gb G) : Calls Try.prog 15 #[.pointer (some ⟨gb, 0, none⟩), .int .i64 t, .int .i64 p] w fun e w' => e = .returned (.int .i64 (baE G t p)) ∧ Gr0 w' gb (baG G t p) ∧ Kp w w' [gb] := by
  have hlt := h.c.lt
  obtain ⟨w1, hw1⟩ : ∃ w1, w.alloc (.cells #[.int .i64 p] 3) = w1 := ⟨_, rfl⟩
  have hk1 : Kp w w1 [] := by rw [← hw1]; exact Kp.alloc _ _ _
  have hb1 : Bxx w1 w.heap.size p := by rw [← hw1]; exact World.alloc_heap_new w _
  have h1 := h.still hk1
  have c1 := cell_one hb1
  by_cases hq : mayT G t ∧ mayP p
  · obtain ⟨t, rfl⟩ : ∃ k : Nat, t = k := ⟨t.toNat, by have := hq.1.1; omega⟩
    have ht : t < G.n := by have := hq.1.2; omega
    have HC := hid (change32 w1 gb G t w.heap.size p h1 ht hb1)
    have e1 : baE G t p = 0 := by unfold baE; rw [if_pos hq]
    have e2 : baG G t p = { G with b := upd G.b t p } := by unfold baG; rw [if_pos hq, Int.toNat_natCast]
    have HR := hid (show Gr0 (w1.setCell ⟨gb, 1 + t * 3, none⟩ (.int .i64 p)) gb (baG G t p) ∧ Kp w (w1.setCell ⟨gb, 1 + t * 3, none⟩ (.int .i64 p)) [gb] from by
      refine ⟨⟨?_, ok_ba h.ok t p, ?_⟩, hk1.past' (Kp.setCell w1 ⟨gb, 1 + t * 3, none⟩ _)⟩
      · rw [e2]
        exact h1.c.setB (h.n16 ht) p
      · rw [e2]
        intro s h2 h3
        have h2 : G.n ≤ s := h2
        have := h.out s h2 h3
        refine ⟨(upd_ne _ _ (by omega)).trans this.1, this.2.1, this.2.2⟩)
    have HP := prio_any w1 p
    rw [show decide (mayP p) = true by simp [hq.2]] at HP
    have HP := hid HP
    rw [e1]
    clear h h1 hb1 hk1 e1 e2 hq
    subst hw1
    go_enter Try.func15, Try.ntmps15
    go_wp2_with (first | (go_at_call 31; refine HP.out.mono ?_; rintro e w2 ⟨rfl, rfl⟩) | (go_at_call 30; refine HC.out.mono ?_; rintro e w2 ⟨rfl, hw2⟩; have HR2 := hid (show Gr0 w2 gb (baG G t p) ∧ Kp w w2 [gb] by rw [hw2]; exact HR.out); clear hw2))
    go_ret
    exact ⟨rfl, HR2.out⟩
  · have e1 : baE G t p = 2 := by unfold baE; rw [if_neg hq]
    have e2 : baG G t p = G := by unfold baG; rw [if_neg hq]
    have HP := hid (prio_any w1 p)
    have HC := hid (fun v => change_no w1 gb G t (decide (mayP p)) v h1 (by simpa using hq))
    have HR := hid (show Gr0 w1 gb (baG G t p) ∧ Kp w w1 [gb] from by rw [e2]; exact ⟨h1, hk1.nil⟩)
    rw [e1]
    clear h h1 hb1 hk1 e1 e2 hq
    subst hw1
    go_enter Try.func15, Try.ntmps15
    go_wp2_with (first | (go_at_call 31; refine HP.out.mono ?_; rintro e w2 ⟨rfl, rfl⟩) | (go_at_call 30; refine (HC.out _).mono ?_; rintro e w2 ⟨rfl, rfl⟩))
    go_ret
    exact ⟨rfl, HR.out⟩
set_option maxRecDepth 100000 in
theorem ceil0 (w : World) (gb : Nat) (G : Gs) (t p : Int) (h : Gr0 w gb G) : Calls Try.prog 16 #[.pointer (some ⟨gb, 0, none⟩), .int .i64 t, .int .i64 p] w fun e w' => e = .returned (.int .i64 (baE G t p)) ∧ Gr0 w' gb (ceG G t p) ∧ Kp w w' [gb] := by
  have hlt := h.c.lt
  obtain ⟨w1, hw1⟩ : ∃ w1, w.alloc (.cells #[.int .i64 p] 3) = w1 := ⟨_, rfl⟩
  have hk1 : Kp w w1 [] := by rw [← hw1]; exact Kp.alloc _ _ _
  have hb1 : Bxx w1 w.heap.size p := by rw [← hw1]; exact World.alloc_heap_new w _
  have h1 := h.still hk1
  have c1 := cell_one hb1
  by_cases hq : mayT G t ∧ mayP p
  · obtain ⟨t, rfl⟩ : ∃ k : Nat, t = k := ⟨t.toNat, by have := hq.1.1; omega⟩
    have ht : t < G.n := by have := hq.1.2; omega
    have HC := hid (change33 w1 gb G t w.heap.size p h1 ht hb1)
    have e1 : baE G t p = 0 := by unfold baE; rw [if_pos hq]
    have e2 : ceG G t p = { G with c := upd G.c t p } := by unfold ceG; rw [if_pos hq, Int.toNat_natCast]
    have HR := hid (show Gr0 (w1.setCell ⟨gb, 1 + t * 3 + 1, none⟩ (.int .i64 p)) gb (ceG G t p) ∧ Kp w (w1.setCell ⟨gb, 1 + t * 3 + 1, none⟩ (.int .i64 p)) [gb] from by
      refine ⟨⟨?_, ok_ce h.ok t p, ?_⟩, hk1.past' (Kp.setCell w1 ⟨gb, 1 + t * 3 + 1, none⟩ _)⟩
      · rw [e2]
        exact h1.c.setC (h.n16 ht) p
      · rw [e2]
        intro s h2 h3
        have h2 : G.n ≤ s := h2
        have := h.out s h2 h3
        refine ⟨this.1, (upd_ne _ _ (by omega)).trans this.2.1, this.2.2⟩)
    have HP := prio_any w1 p
    rw [show decide (mayP p) = true by simp [hq.2]] at HP
    have HP := hid HP
    rw [e1]
    clear h h1 hb1 hk1 e1 e2 hq
    subst hw1
    go_enter Try.func16, Try.ntmps16
    go_wp2_with (first | (go_at_call 31; refine HP.out.mono ?_; rintro e w2 ⟨rfl, rfl⟩) | (go_at_call 30; refine HC.out.mono ?_; rintro e w2 ⟨rfl, hw2⟩; have HR2 := hid (show Gr0 w2 gb (ceG G t p) ∧ Kp w w2 [gb] by rw [hw2]; exact HR.out); clear hw2))
    go_ret
    exact ⟨rfl, HR2.out⟩
  · have e1 : baE G t p = 2 := by unfold baE; rw [if_neg hq]
    have e2 : ceG G t p = G := by unfold ceG; rw [if_neg hq]
    have HP := hid (prio_any w1 p)
    have HC := hid (fun v => change_no w1 gb G t (decide (mayP p)) v h1 (by simpa using hq))
    have HR := hid (show Gr0 w1 gb (ceG G t p) ∧ Kp w w1 [gb] from by rw [e2]; exact ⟨h1, hk1.nil⟩)
    rw [e1]
    clear h h1 hb1 hk1 e1 e2 hq
    subst hw1
    go_enter Try.func16, Try.ntmps16
    go_wp2_with (first | (go_at_call 31; refine HP.out.mono ?_; rintro e w2 ⟨rfl, rfl⟩) | (go_at_call 30; refine (HC.out _).mono ?_; rintro e w2 ⟨rfl, rfl⟩))
    go_ret
    exact ⟨rfl, HR.out⟩
theorem ow_upd (G : Gs) {t : Nat} (ht : t < G.n) (p : Int) : ow { G with w := upd G.w t p } = upd (ow G) t p := by
  funext s
  show (if s < G.n then upd G.w t p s else 0) = if s = t then p else if s < G.n then G.w s else 0
  by_cases e : s = t
  · subst e
    rw [if_pos ht, if_pos rfl, upd_same]
  · rw [if_neg e, upd_ne _ _ e]
set_option maxRecDepth 100000 in
theorem waits0 (w : World) (gb : Nat) (G : Gs) (t p : Int) (h : Gr0 w gb G) : Calls Try.prog 17 #[.pointer (some ⟨gb, 0, none⟩), .int .i64 t, .int .i64 p] w fun e w' => e = .returned (.int .i64 (waE G t p)) ∧ Gr0 w' gb (waG G t p) ∧ Kp w w' [gb] := by
  have hlt := h.c.lt
  obtain ⟨w1, hw1⟩ : ∃ w1, w.alloc (.cells #[.int .i64 p] 3) = w1 := ⟨_, rfl⟩
  have hk1 : Kp w w1 [] := by rw [← hw1]; exact Kp.alloc _ _ _
  have hb1 : Bxx w1 w.heap.size p := by rw [← hw1]; exact World.alloc_heap_new w _
  have h1 := h.still hk1
  have c1 := cell_one hb1
  have ho : mayO G p ↔ p = -1 ∨ mayT G p := by unfold mayO mayT; omega
  have CM := may_any w1 gb G p h1
  by_cases hq : mayT G t ∧ mayO G p
  · obtain ⟨t, rfl⟩ : ∃ k : Nat, t = k := ⟨t.toNat, by have := hq.1.1; omega⟩
    have ht : t < G.n := by have := hq.1.2; omega
    have HC := hid (change34 w1 gb G t w.heap.size p h1 ht hb1)
    have e1 : waE G t p = 0 := by unfold waE; rw [if_pos hq]
    have e2 : waG G t p = { G with w := upd G.w t p } := by unfold waG; rw [if_pos hq, Int.toNat_natCast]
    have HR := hid (show Gr0 (w1.setCell ⟨gb, 1 + t * 3 + 2, none⟩ (.int .i64 p)) gb (waG G t p) ∧ Kp w (w1.setCell ⟨gb, 1 + t * 3 + 2, none⟩ (.int .i64 p)) [gb] from by
      refine ⟨⟨?_, ok_wa h.ok t p, ?_⟩, hk1.past' (Kp.setCell w1 ⟨gb, 1 + t * 3 + 2, none⟩ _)⟩
      · rw [e2, ow_upd G ht]
        exact h1.c.setO (h.n16 ht) p
      · rw [e2]
        intro s h2 h3
        have h2 : G.n ≤ s := h2
        have := h.out s h2 h3
        refine ⟨this.1, this.2.1, (upd_ne _ _ (by omega)).trans this.2.2⟩)
    rw [e1]
    rcases ho.1 hq.2 with hp | hp
    · clear CM h h1 hb1 hk1 e1 e2 hq ho
      have hpq : (p == -1) = true := by simp [hp]
      have HP := hid hp
      clear hp
      subst hw1
      go_enter Try.func17, Try.ntmps17
      go_wp2_with (first | (go_at_call 30; refine HC.out.mono ?_; rintro e w2 ⟨rfl, hw2⟩; have HR2 := hid (show Gr0 w2 gb (waG G t p) ∧ Kp w w2 [gb] by rw [hw2]; exact HR.out); clear hw2))
      go_ret
      exact ⟨rfl, HR2.out⟩
    · have hpq : (p == -1) = false := by have := hp.1; simp; omega
      rw [show decide (mayT G p) = true by simp [hp]] at CM
      have HCM := hid CM
      clear CM h h1 hb1 hk1 e1 e2 hq hp ho
      subst hw1
      go_enter Try.func17, Try.ntmps17
      go_wp2_with (first | (go_at_call 29; refine HCM.out.mono ?_; rintro e w2 ⟨rfl, rfl⟩) | (go_at_call 30; refine HC.out.mono ?_; rintro e w2 ⟨rfl, hw2⟩; have HR2 := hid (show Gr0 w2 gb (waG G t p) ∧ Kp w w2 [gb] by rw [hw2]; exact HR.out); clear hw2))
      go_ret
      exact ⟨rfl, HR2.out⟩
  · have e1 : waE G t p = 2 := by unfold waE; rw [if_neg hq]
    have e2 : waG G t p = G := by unfold waG; rw [if_neg hq]
    have HC := hid (fun m v (hm : m = true → mayO G p) => change_no w1 gb G t m v h1 (fun q => hq ⟨q.1, hm q.2⟩))
    have HR := hid (show Gr0 w1 gb (waG G t p) ∧ Kp w w1 [gb] from by rw [e2]; exact ⟨h1, hk1.nil⟩)
    rw [e1]
    have HO := hid ho
    by_cases hp : p = -1
    · have hpq : (p == -1) = true := by simp [hp]
      have HP := hid hp
      clear CM h h1 hb1 hk1 e1 e2 hq ho hp
      subst hw1
      go_enter Try.func17, Try.ntmps17
      go_wp2_with (first | (go_at_call 30; refine (HC.out _ _ (fun _ => HO.out.2 (.inl HP.out))).mono ?_; rintro e w2 ⟨rfl, rfl⟩))
      go_ret
      exact ⟨rfl, HR.out⟩
    · have hpq : (p == -1) = false := by simp [hp]
      have HCM := hid CM
      clear CM h h1 hb1 hk1 e1 e2 hq ho hp
      subst hw1
      go_enter Try.func17, Try.ntmps17
      go_wp2_with (first | (go_at_call 29; refine HCM.out.mono ?_; rintro e w2 ⟨rfl, rfl⟩) | (go_at_call 30; refine (HC.out _ _ (fun q => HO.out.2 (.inr (by simpa using q)))).mono ?_; rintro e w2 ⟨rfl, rfl⟩))
      go_ret
      exact ⟨rfl, HR.out⟩
end Go.Proofs.Ytomdnppnabncaaa
