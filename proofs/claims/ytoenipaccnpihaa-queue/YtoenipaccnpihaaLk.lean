/- What looks at signals: numbers, bits, refusal, Mask, Pending, Open; SetMask. -/
import Derived.Test.YtoenipaccnpihaaSg
namespace Go.Proofs.Ytoenipaccnpihaa
open Go.RowKit Go.Shelf Go.Lib Go.Sort Go.Maps
attribute [local go_sem] Oper.semAt_some

theorem drew_cell (w : World) (a : Addr) : w.drew.cell? a = w.cell? a := rfl
def maySig (n : Int) : Bool := decide (1 ≤ n) && decide (n ≤ 31)
set_option maxRecDepth 100000 in
theorem maysig_any (w : World) (n : Int) : Calls Try.prog 40 #[.int .i64 n] w fun e w' => e = .returned (.bool (maySig n)) ∧ w' = w := by
  unfold maySig
  by_cases h0 : 1 ≤ n
  · have d0 : decide (1 ≤ n) = true := by simpa using h0
    by_cases h1 : n ≤ 31
    · have d1 : decide (n ≤ 31) = true := by simpa using h1
      rw [d0, d1]
      go_enter Try.func40, Try.ntmps40
      go_wp2
      go_ret
      exact ⟨rfl, rfl⟩
    · have d1 : decide (n ≤ 31) = false := by simpa using h1
      rw [d0, d1]
      go_enter Try.func40, Try.ntmps40
      go_wp2
      go_ret
      exact ⟨rfl, rfl⟩
  · have d0 : decide (1 ≤ n) = false := by simpa using h0
    rw [d0, Bool.false_and]
    go_enter Try.func40, Try.ntmps40
    go_wp2
    go_ret
    exact ⟨rfl, rfl⟩
set_option maxRecDepth 100000 in
theorem queues_any (w : World) (n : Int) : Calls Try.prog 41 #[.int .i64 n] w fun e w' => e = .returned (.bool (decide (15 < n))) ∧ w' = w := by
  obtain ⟨b, hb⟩ : ∃ b, decide (15 < n) = b := ⟨_, rfl⟩
  rw [hb]
  go_enter Try.func41, Try.ntmps41
  go_wp2
  go_ret
  exact ⟨rfl, rfl⟩
set_option maxRecDepth 100000 in
theorem bit_any (w : World) (n : Nat) (hn : n < 32) : Calls Try.prog 42 #[.int .i64 n] w fun e w' => e = .returned (.int .u32 ((2 ^ n : Nat) : Int)) ∧ w' = w := by
  have h1 := shl_bit hn
  have h2 : ¬ ((n : Int) < 0) := by omega
  have h3 : ((n : Int)).toNat = n := by omega
  go_enter Try.func42, Try.ntmps42
  go_wp2
  go_ret
  exact ⟨rfl, rfl⟩
/-- Why nothing is done. -/
def refE (T : Nat) (t : Int) : Int := if inT T t then 0 else 2
set_option maxRecDepth 100000 in
theorem ref_zero (w : World) (p : Option Addr) (t : Int) (h : Zs w p) : Calls Try.prog 44 #[.pointer p, .int .i64 t] w fun e w' => e = .returned (.int .i64 1) ∧ w' = w := by
  have H := hid (zero_yes w p h)
  clear h
  go_enter Try.func44, Try.ntmps44
  go_wp2_with fail
  refine H.out.mono ?_
  rintro e w1 ⟨rfl, hw⟩; obtain rfl := hw.symm
  go_wp2
  go_ret
  exact ⟨rfl, rfl⟩
set_option maxRecDepth 100000 in
theorem ref_any (w : World) (sb : Nat) (R : List Nat) (T S : Nat) (M : Nat → Nat) (L : El) (t : Int) (h : Sg w sb R T S M L) : Calls Try.prog 44 #[.pointer (some ⟨sb, 0, none⟩), .int .i64 t] w fun e w' => e = .returned (.int .i64 (refE T t)) ∧ w' = w := by
  have H := hid (zero_no w sb R T S M L h)
  have K := has_any w sb R T S M L t h
  clear h
  unfold refE
  cases hb : inT T t with
  | true =>
    rw [hb] at K
    have K := hid K
    rw [if_pos rfl]
    go_enter Try.func44, Try.ntmps44
    go_wp2_with fail
    refine H.out.mono ?_
    rintro e w1 ⟨rfl, hw⟩; obtain rfl := hw.symm
    go_wp2_with fail
    refine K.out.mono ?_
    rintro e w1 ⟨rfl, hw⟩; obtain rfl := hw.symm
    go_wp2
    go_ret
    exact ⟨rfl, rfl⟩
  | false =>
    rw [hb] at K
    have K := hid K
    rw [if_neg (by simp)]
    go_enter Try.func44, Try.ntmps44
    go_wp2_with fail
    refine H.out.mono ?_
    rintro e w1 ⟨rfl, hw⟩; obtain rfl := hw.symm
    go_wp2_with fail
    refine K.out.mono ?_
    rintro e w1 ⟨rfl, hw⟩; obtain rfl := hw.symm
    go_wp2
    go_ret
    exact ⟨rfl, rfl⟩
set_option maxRecDepth 100000 in
theorem mask_zero (w : World) (p : Option Addr) (t : Int) (h : Zs w p) : Calls Try.prog 24 #[.pointer p, .int .i64 t] w fun e w' => e = .returned (.int .u32 0) ∧ w' = w := by
  have H := hid (has_zero w p t h)
  clear h
  go_enter Try.func24, Try.ntmps24
  go_wp2_with fail
  refine H.out.mono ?_
  rintro e w1 ⟨rfl, hw⟩; obtain rfl := hw.symm
  go_wp2
  go_ret
  exact ⟨rfl, rfl⟩
set_option maxRecDepth 100000 in
theorem mask_no (w : World) (sb : Nat) (R : List Nat) (T S : Nat) (M : Nat → Nat) (L : El) (t : Int) (h : Sg w sb R T S M L) (ht : inT T t = false) : Calls Try.prog 24 #[.pointer (some ⟨sb, 0, none⟩), .int .i64 t] w fun e w' => e = .returned (.int .u32 0) ∧ w' = w := by
  have K := has_any w sb R T S M L t h
  rw [ht] at K
  have K := hid K
  clear h ht
  go_enter Try.func24, Try.ntmps24
  go_wp2_with fail
  refine K.out.mono ?_
  rintro e w1 ⟨rfl, hw⟩; obtain rfl := hw.symm
  go_wp2
  go_ret
  exact ⟨rfl, rfl⟩
set_option maxRecDepth 100000 in
theorem mask_yes (w : World) (sb : Nat) (R : List Nat) (T S : Nat) (M : Nat → Nat) (L : El) (t : Nat) (h : Sg w sb R T S M L) (ht : t < T) : Calls Try.prog 24 #[.pointer (some ⟨sb, 0, none⟩), .int .i64 t] w fun e w' => e = .returned (.int .u32 (M t : Nat)) ∧ w' = w := by
  have K := has_any w sb R T S M L t h
  rw [inT_nat, decide_eq_true ht] at K
  have K := hid K
  have h2 := h.bd.1.2
  obtain ⟨mb, g, cap, h⟩ := h
  have c0 := h.c.ms (t := t) (by omega)
  generalize M t = x at c0 ⊢
  clear h
  go_enter Try.func24, Try.ntmps24
  go_wp2_with fail
  refine K.out.mono ?_
  rintro e w1 ⟨rfl, hw⟩; obtain rfl := hw.symm
  go_wp2
  go_ret
  exact ⟨rfl, rfl⟩
/-- What Mask tells. -/
def maskV (T : Nat) (M : Nat → Nat) (t : Int) : Nat := if inT T t then M t.toNat else 0
theorem mask_any (w : World) (sb : Nat) (R : List Nat) (T S : Nat) (M : Nat → Nat) (L : El) (t : Int) (h : Sg w sb R T S M L) : Calls Try.prog 24 #[.pointer (some ⟨sb, 0, none⟩), .int .i64 t] w fun e w' => e = .returned (.int .u32 (maskV T M t : Nat)) ∧ w' = w := by
  unfold maskV
  cases hb : inT T t with
  | false => rw [if_neg (by simp)]; exact mask_no w sb R T S M L t h hb
  | true =>
    obtain ⟨k, rfl, hk⟩ := inT_yes hb
    rw [if_pos rfl]
    exact mask_yes w sb R T S M L k h hk
set_option maxRecDepth 100000 in
theorem pending_zero (w : World) (p : Option Addr) (t : Int) (h : Zs w p) : Calls Try.prog 18 #[.pointer p, .int .i64 t] w fun e w' => e = .returned (.int .u32 0) ∧ w' = w := by
  have H := hid (has_zero w p t h)
  clear h
  go_enter Try.func18, Try.ntmps18
  go_wp2_with fail
  refine H.out.mono ?_
  rintro e w1 ⟨rfl, hw⟩; obtain rfl := hw.symm
  go_wp2
  go_ret
  exact ⟨rfl, rfl⟩
set_option maxRecDepth 100000 in
theorem pending_no (w : World) (sb : Nat) (R : List Nat) (T S : Nat) (M : Nat → Nat) (L : El) (t : Int) (h : Sg w sb R T S M L) (ht : inT T t = false) : Calls Try.prog 18 #[.pointer (some ⟨sb, 0, none⟩), .int .i64 t] w fun e w' => e = .returned (.int .u32 0) ∧ w' = w := by
  have K := has_any w sb R T S M L t h
  rw [ht] at K
  have K := hid K
  clear h ht
  go_enter Try.func18, Try.ntmps18
  go_wp2_with fail
  refine K.out.mono ?_
  rintro e w1 ⟨rfl, hw⟩; obtain rfl := hw.symm
  go_wp2
  go_ret
  exact ⟨rfl, rfl⟩
set_option maxRecDepth 100000 in
theorem pending_yes (w : World) (sb : Nat) (R : List Nat) (T S : Nat) (M : Nat → Nat) (L : El) (t : Nat) (h : Sg w sb R T S M L) (ht : t < T) : Calls Try.prog 18 #[.pointer (some ⟨sb, 0, none⟩), .int .i64 t] w fun e w' => e = .returned (.int .u32 (pend L t : Nat)) ∧ w' = w := by
  have K := has_any w sb R T S M L t h
  rw [inT_nat, decide_eq_true ht] at K
  have K := hid K
  have h2 := h.bd.1.2
  obtain ⟨mb, g, cap, h⟩ := h
  have c0 := h.c.ps (t := t) (by omega)
  generalize pend L t = x at c0 ⊢
  clear h
  go_enter Try.func18, Try.ntmps18
  go_wp2_with fail
  refine K.out.mono ?_
  rintro e w1 ⟨rfl, hw⟩; obtain rfl := hw.symm
  go_wp2
  go_ret
  exact ⟨rfl, rfl⟩
/-- What Pending tells. -/
def pendingV (T : Nat) (L : El) (t : Int) : Nat := if inT T t then pend L t.toNat else 0
theorem pending_any (w : World) (sb : Nat) (R : List Nat) (T S : Nat) (M : Nat → Nat) (L : El) (t : Int) (h : Sg w sb R T S M L) : Calls Try.prog 18 #[.pointer (some ⟨sb, 0, none⟩), .int .i64 t] w fun e w' => e = .returned (.int .u32 (pendingV T L t : Nat)) ∧ w' = w := by
  unfold pendingV
  cases hb : inT T t with
  | false => rw [if_neg (by simp)]; exact pending_no w sb R T S M L t h hb
  | true =>
    obtain ⟨k, rfl, hk⟩ := inT_yes hb
    rw [if_pos rfl]
    exact pending_yes w sb R T S M L k h hk
theorem mask_lt {w : World} {sb : Nat} {R : List Nat} {T S : Nat} {M : Nat → Nat} {L : El} (h : Sg w sb R T S M L) (t : Int) : maskV T M t < 4294967296 := by
  unfold maskV
  split
  · exact h.mm _
  · omega
theorem pending_lt {w : World} {sb : Nat} {R : List Nat} {T S : Nat} {M : Nat → Nat} {L : El} (h : Sg w sb R T S M L) (t : Int) : pendingV T L t < 4294967296 := by
  unfold pendingV
  split
  · exact h.pp _
  · omega
set_option maxRecDepth 100000 in
theorem open_any (w : World) (sb : Nat) (R : List Nat) (T S : Nat) (M : Nat → Nat) (L : El) (t : Int) (h : Sg w sb R T S M L) : Calls Try.prog 22 #[.pointer (some ⟨sb, 0, none⟩), .int .i64 t] w fun e w' => e = .returned (.int .u32 (noB (pendingV T L t) (maskV T M t) : Nat)) ∧ w' = w := by
  have H := hid (pending_any w sb R T S M L t h)
  have K := hid (mask_any w sb R T S M L t h)
  have hb := not_bits (pending_lt h t) (mask_lt h t)
  generalize pendingV T L t = x at H hb ⊢
  generalize maskV T M t = y at K hb ⊢
  clear h
  go_enter Try.func22, Try.ntmps22
  go_wp2_with fail
  refine H.out.mono ?_
  rintro e w1 ⟨rfl, hw⟩; obtain rfl := hw.symm
  go_wp2_with fail
  refine K.out.mono ?_
  rintro e w1 ⟨rfl, hw⟩; obtain rfl := hw.symm
  go_wp2
  go_ret
  exact ⟨rfl, rfl⟩
set_option maxRecDepth 100000 in
theorem open_zero (w : World) (p : Option Addr) (t : Int) (h : Zs w p) : Calls Try.prog 22 #[.pointer p, .int .i64 t] w fun e w' => e = .returned (.int .u32 0) ∧ w' = w := by
  have H := hid (pending_zero w p t h)
  have K := hid (mask_zero w p t h)
  have hb := not_bits (u := 0) (v := 0) (by omega) (by omega)
  rw [show noB 0 0 = 0 by decide] at hb
  clear h
  go_enter Try.func22, Try.ntmps22
  go_wp2_with fail
  refine H.out.mono ?_
  rintro e w1 ⟨rfl, hw⟩; obtain rfl := hw.symm
  go_wp2_with fail
  refine K.out.mono ?_
  rintro e w1 ⟨rfl, hw⟩; obtain rfl := hw.symm
  go_wp2
  go_ret
  exact ⟨rfl, rfl⟩
set_option maxRecDepth 100000 in
theorem setmask_zero (w : World) (p : Option Addr) (t : Int) (v : Value) (h : Zs w p) : Calls Try.prog 19 #[.pointer p, .int .i64 t, v] w fun e w' => e = .returned (.tuple #[.int .u32 0, .int .i64 1]) ∧ w' = w := by
  have H := hid (ref_zero w p t h)
  clear h
  go_enter Try.func19, Try.ntmps19
  go_wp2_with fail
  refine H.out.mono ?_
  rintro e w1 ⟨rfl, hw⟩; obtain rfl := hw.symm
  go_wp2
  go_ret2
  exact ⟨rfl, rfl⟩
set_option maxRecDepth 100000 in
theorem setmask_no (w : World) (sb : Nat) (R : List Nat) (T S : Nat) (M : Nat → Nat) (L : El) (t : Int) (v : Value) (h : Sg w sb R T S M L) (ht : inT T t = false) : Calls Try.prog 19 #[.pointer (some ⟨sb, 0, none⟩), .int .i64 t, v] w fun e w' => e = .returned (.tuple #[.int .u32 0, .int .i64 2]) ∧ w' = w := by
  have H := ref_any w sb R T S M L t h
  rw [show refE T t = 2 by simp [refE, ht]] at H
  have H := hid H
  clear h ht
  go_enter Try.func19, Try.ntmps19
  go_wp2_with fail
  refine H.out.mono ?_
  rintro e w1 ⟨rfl, hw⟩; obtain rfl := hw.symm
  go_wp2
  go_ret2
  exact ⟨rfl, rfl⟩
theorem Sg.setM {w : World} {sb : Nat} {R : List Nat} {T S : Nat} {M : Nat → Nat} {L : El} (h : Sg w sb R T S M L) {t x : Nat} (ht : t < 16) (hx : x < 4294967296) : Sg (w.setCell ⟨sb, 2 + t, none⟩ (.int .u32 (x : Nat))) sb R T S (upd M t x) L := by
  obtain ⟨mb, g, cap, h⟩ := h
  have hn := h.ne
  have hk := Kp.setCell w ⟨sb, 2 + t, none⟩ (.int .u32 (x : Nat))
  refine ⟨mb, g, cap, h.c.setM ht x, h.m.keep hk (by simp; exact fun e => hn.1 e.symm), fun t n hn' hq => ⟨(h.row t n hn' hq).1.kp hk (fun g' hg => ?_), (h.row t n hn' hq).2⟩, h.inj, h.sR, h.mR, fun j hj => by simpa using h.lt j hj, h.ok, h.t1, h.t2, h.s1, h.s2, fun t' => ?_⟩
  · simp [Value.ownBlock] at hg
    subst hg
    simp
    exact (hn.2 t n hn' hq).1
  · unfold upd
    split
    · exact hx
    · exact h.mm t'
theorem to_setM {w : World} {sb : Nat} {R : List Nat} {T S : Nat} {M : Nat → Nat} {L : El} (h : Sg w sb R T S M L) {t x : Nat} (ht : t < 16) (hx : x < 4294967296) : To w (w.setCell ⟨sb, 2 + t, none⟩ (.int .u32 (x : Nat))) sb R T S (upd M t x) L :=
  ⟨R, h.setM ht hx, Nw.refl _ _, (Kp.setCell w _ _).mono fun k hk _ => by
    simp at hk
    subst hk
    exact h.mem⟩
theorem To.drewN {w w' : World} {sb : Nat} {R : List Nat} {T S : Nat} {M : Nat → Nat} {L : El} (h : To w w' sb R T S M L) (n : Nat) : To w (w'.drewN n) sb R T S M L := h.more (Kp.drewN _ _ _)
theorem To.drew {w w' : World} {sb : Nat} {R : List Nat} {T S : Nat} {M : Nat → Nat} {L : El} (h : To w w' sb R T S M L) : To w w'.drew sb R T S M L := h.more (Kp.drew _ _)
set_option maxRecDepth 100000 in
theorem setmask_yes (w : World) (sb : Nat) (R : List Nat) (T S : Nat) (M : Nat → Nat) (L : El) (t x : Nat) (h : Sg w sb R T S M L) (ht : t < T) (hx : x < 4294967296) : Calls Try.prog 19 #[.pointer (some ⟨sb, 0, none⟩), .int .i64 t, .int .u32 x] w fun e w' => e = .returned (.tuple #[.int .u32 (M t : Nat), .int .i64 0]) ∧ To w w' sb R T S (upd M t (noB x 1)) L := by
  have H := ref_any w sb R T S M L t h
  rw [show refE T t = 0 by simp [refE, inT_nat, ht]] at H
  have H := hid H
  have h2 := h.bd.1.2
  have HT := hid (to_setM h (t := t) (x := noB x 1) (by omega) (noB_lt _ hx))
  have hb : bits .andNot .u32 (x : Int) 1 = (noB x 1 : Nat) := not_bits hx (v := 1) (by omega)
  have KB := hid (fun w => bit_any w 0 (by omega))
  obtain ⟨mb, g, cap, h⟩ := h
  have c0 := h.c.ms (t := t) (by omega)
  have f0 := h.c.free (2 + t)
  have ht16 : t < 16 := by omega
  have ht16i : (t : Int) < 16 := by omega
  generalize M t = y at c0 ⊢
  generalize noB x 1 = z at HT hb ⊢
  clear h ht
  go_enter Try.func19, Try.ntmps19
  go_wp2_with fail
  refine H.out.mono ?_
  rintro e w1 ⟨rfl, hw⟩; obtain rfl := hw.symm
  clear H
  go_wp2_with fail
  go_region_held_law (fun w1 => ∃ v, w1.cell? ⟨sb, 2 + t, none⟩ = some v)
    (first | exact ⟨_, c0⟩ | exact ⟨_, (drew_cell _ _).trans (World.cell?_setCell_same _ _ _ c0)⟩)
    (first | (go_at_call 42; refine (KB.out _).mono ?_; rintro e wr ⟨rfl, hw⟩; obtain rfl := hw.symm) | fail)
  go_wp2_with fail
  go_ret2
  exact ⟨rfl, HT.out.drew⟩
end Go.Proofs.Ytoenipaccnpihaa
