/- The reference in memory; New, in, bit, Mask, SetMask, Copy. -/
import Derived.Test.YtoenipaccnpihaaEr
import Derived.Test.YtoenipaccnpihaaCy
namespace Go.Proofs.Ytoenipaccnpihaa
open Go.RowKit Go.Shelf Go.Sort Go.Maps
open Go.Lib hiding intOf
attribute [local go_sem] Oper.semAt_some

/-- What a block of the reference's holds. -/
def rV (T S : Nat) (M : Nat → Nat) (V : Value) : Nat → Value := fun i => if i = 0 then .int .i64 (T : Nat) else if i = 1 then .int .i64 (S : Nat) else if i < 18 then .int .u32 (M (i - 2) : Nat) else V
def Rc (w : World) (rb T S : Nat) (M : Nat → Nat) (V : Value) : Prop := w.heap[rb]? = some (.cells (vcl (rV T S M V) 19 0).toArray 64 (0, 0))
section
variable {w w' : World} {rb T S : Nat} {M : Nat → Nat} {V : Value}
theorem Rc.lt (h : Rc w rb T S M V) : rb < w.heap.size := lt_of_block h
theorem Rc.keep {rows : List Nat} (h : Rc w rb T S M V) (hk : Kp w w' rows) (hr : rb ∉ rows) : Rc w' rb T S M V := (hk.block rb (lt_of_block h) hr).trans h
theorem Rc.free (h : Rc w rb T S M V) (i : Nat) : w.frozen? ⟨rb, i, none⟩ = false := by unfold Rc at h; simp [World.frozen?, h]
theorem Rc.thr (h : Rc w rb T S M V) : w.cell? ⟨rb, 0, none⟩ = some (.int .i64 (T : Nat)) := vcl_cell h 0 (by omega)
theorem Rc.slt (h : Rc w rb T S M V) : w.cell? ⟨rb, 1, none⟩ = some (.int .i64 (S : Nat)) := vcl_cell h 1 (by omega)
theorem Rc.row (h : Rc w rb T S M V) : w.cell? ⟨rb, 18, none⟩ = some V := vcl_cell h 18 (by omega)
theorem rV_m (t : Nat) (ht : t < 16) : rV T S M V (2 + t) = .int .u32 (M t : Nat) := by
  unfold rV
  rw [if_neg (by omega), if_neg (by omega), if_pos (by omega), show 2 + t - 2 = t by omega]
theorem Rc.ms (h : Rc w rb T S M V) {t : Nat} (ht : t < 16) : w.cell? ⟨rb, 2 + t, none⟩ = some (.int .u32 (M t : Nat)) := by rw [vcl_cell h _ (by omega), rV_m t ht]
theorem Rc.setM (h : Rc w rb T S M V) {t : Nat} (ht : t < 16) (x : Nat) : Rc (w.setCell ⟨rb, 2 + t, none⟩ (.int .u32 (x : Nat))) rb T S (upd M t x) V := by
  refine vcl_heap h (by omega) fun i hi => ?_
  by_cases e : i = 2 + t
  · rw [if_pos e, e, rV_m t ht]
    simp [upd]
  · rw [if_neg e]
    unfold rV upd
    by_cases e0 : i = 0
    · simp [e0]
    by_cases e1 : i = 1
    · simp [e1]
    rw [if_neg e0, if_neg e1, if_neg e0, if_neg e1]
    by_cases e2 : i < 18
    · rw [if_pos e2, if_pos e2, if_neg (by omega)]
    · rw [if_neg e2, if_neg e2]
theorem Rc.setRow (h : Rc w rb T S M V) (V' : Value) : Rc (w.setCell ⟨rb, 18, none⟩ V') rb T S M V' := by
  refine vcl_heap h (by omega) fun i hi => ?_
  by_cases e : i = 18
  · rw [if_pos e, e]
    rfl
  · rw [if_neg e]
    unfold rV
    by_cases e0 : i = 0
    · simp [e0]
    by_cases e1 : i = 1
    · simp [e1]
    rw [if_neg e0, if_neg e1, if_neg e0, if_neg e1, if_pos (by omega), if_pos (by omega)]
end
/-- The reference's, by its block and its row's. -/
def Rm (w : World) (rb : Nat) (Q : List Nat) (T S : Nat) (M : Nat → Nat) (L : El) : Prop := ∃ V, Q = rb :: V.ownBlock.toList ∧ Rc w rb T S M V ∧ Er w 0 V L
section
variable {w w' : World} {rb T S : Nat} {M : Nat → Nat} {L : El} {Q : List Nat}
theorem Rm.lt (h : Rm w rb Q T S M L) : ∀ k ∈ Q, k < w.heap.size := by
  obtain ⟨V, rfl, hc, he⟩ := h
  intro k hk
  rcases List.mem_cons.1 hk with rfl | hk
  · exact hc.lt
  · obtain ⟨-, cur, hx⟩ := owns_block he (g := k) (by simpa using hk)
    exact lt_of_block hx
theorem Rm.keep (h : Rm w rb Q T S M L) {rs : List Nat} (hk : Kp w w' rs) (hr : ∀ k ∈ Q, k ∉ rs) : Rm w' rb Q T S M L := by
  obtain ⟨V, rfl, hc, he⟩ := h
  exact ⟨V, rfl, hc.keep hk (hr rb (by simp)), he.kp hk (fun g hg => hr g (by simp [hg]))⟩
theorem Rm.same (h : Rm w rb Q T S M L) (hk : Kp w w' []) : Rm w' rb Q T S M L := h.keep hk (by simp)
theorem Rm.mem (h : Rm w rb Q T S M L) : rb ∈ Q := by
  obtain ⟨V, rfl, -⟩ := h
  simp
/-- What a call of the reference's leaves. -/
def Rto (w w' : World) (rb T S : Nat) (M : Nat → Nat) (L : El) : Prop := ∃ Q', Rm w' rb Q' T S M L ∧ Nw w [rb] Q' ∧ Kp w w' [rb]
end
/-- What it leaves where it changes nothing: the row stays the same. -/
def Rst (w w' : World) (rb : Nat) (Q : List Nat) (T S : Nat) (M : Nat → Nat) (L : El) : Prop := ∃ Q', Rm w' rb Q' T S M L ∧ Nw w Q Q' ∧ Kp w w' [rb]
theorem Rst.stay {w w' : World} {rb T S : Nat} {M : Nat → Nat} {L : El} {Q : List Nat} (h : Rm w rb Q T S M L) (hk : Kp w w' []) : Rst w w' rb Q T S M L := ⟨Q, h.same hk, Nw.refl _ _, hk.nil⟩
theorem Rst.trans {w w1 w2 : World} {rb T S : Nat} {M1 M2 : Nat → Nat} {L1 L2 : El} {Q : List Nat} (h : Rst w w1 rb Q T S M1 L1) (h' : ∀ Q1, Rm w1 rb Q1 T S M1 L1 → Rst w1 w2 rb Q1 T S M2 L2) : Rst w w2 rb Q T S M2 L2 := by
  obtain ⟨Q1, s1, n1, k1⟩ := h
  obtain ⟨Q2, s2, n2, k2⟩ := h' Q1 s1
  exact ⟨Q2, s2, n1.trans n2 k1.size, k1.trans k2⟩
set_option maxRecDepth 100000 in
theorem rin_nil (w : World) (t : Int) : Calls Try.prog 46 #[.pointer none, .int .i64 t] w fun e w' => e = .returned (.bool false) ∧ w' = w := by
  go_enter Try.func46, Try.ntmps46
  go_wp2
  go_ret
  exact ⟨rfl, rfl⟩
set_option maxRecDepth 100000 in
theorem rin_any (w : World) (rb T S : Nat) (M : Nat → Nat) (V : Value) (t : Int) (h : Rc w rb T S M V) : Calls Try.prog 46 #[.pointer (some ⟨rb, 0, none⟩), .int .i64 t] w fun e w' => e = .returned (.bool (inT T t)) ∧ w' = w := by
  have c0 := h.thr
  clear h
  unfold inT
  by_cases h0 : 0 ≤ t
  · have d0 : decide (0 ≤ t) = true := by simpa using h0
    by_cases h1 : t < T
    · have d1 : decide (t < T) = true := by simpa using h1
      rw [d0, d1]
      go_enter Try.func46, Try.ntmps46
      go_wp2
      go_ret
      exact ⟨rfl, rfl⟩
    · have d1 : decide (t < T) = false := by simpa using h1
      rw [d0, d1]
      go_enter Try.func46, Try.ntmps46
      go_wp2
      go_ret
      exact ⟨rfl, rfl⟩
  · have d0 : decide (0 ≤ t) = false := by simpa using h0
    rw [d0, Bool.false_and]
    go_enter Try.func46, Try.ntmps46
    go_wp2
    go_ret
    exact ⟨rfl, rfl⟩
set_option maxRecDepth 100000 in
theorem rbit_any (w : World) (n : Nat) (hn : n < 32) : Calls Try.prog 47 #[.int .i64 n] w fun e w' => e = .returned (.int .u32 (2 ^ n)) ∧ w' = w := by
  go_enter Try.func47, Try.ntmps47
  go_wp2
  go_loopw [3, 4] (fun vb vi wr => ∃ k : Nat, vi = .int .i64 k ∧ vb = .int .u32 (2 ^ k) ∧ wr = w ∧ Hid (k ≤ n)) (fun _ vi _ => n - (intOf vi).toNat)
  case atStart => exact ⟨0, rfl, rfl, rfl, hid (Nat.zero_le _)⟩
  case round =>
    obtain ⟨k, rfl, rfl, rfl, hR⟩ := hrel
    by_cases hk : k < n
    · have hkI : (k : Int) < n := by omega
      have hw2 : IntKind.u32.wrap ((2 : Int) ^ k * 2) = 2 ^ (k + 1) := by
        rw [show (2 : Int) ^ k * 2 = 2 ^ (k + 1) from (Int.pow_succ 2 k).symm, pow_cast]
        exact wrap32 _ (bit_lt (by omega))
      have HN := hid (show k + 1 ≤ n from hk)
      clear hR
      go_wp2
      go_roundw
      case rel => exact ⟨k + 1, by simp, rfl, trivial, HN⟩
      case measure => simp [intOf]; omega
    · have hkI : ¬ (k : Int) < n := by omega
      have e : k = n := by have := hR.out; omega
      have HE := hid e
      clear hR e
      go_wp2
      go_ret
      exact ⟨by rw [← HE.out]; rfl, rfl⟩
end Go.Proofs.Ytoenipaccnpihaa
