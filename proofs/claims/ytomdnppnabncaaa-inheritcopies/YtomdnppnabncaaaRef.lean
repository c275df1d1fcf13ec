/- The reference's graph: New, In. -/
import Derived.Test.YtomdnppnabncaaaInts
import Derived.RangeFuncRecord
namespace Go.Proofs.Ytomdnppnabncaaa
open Go.RowKit Go.Shelf
open Go.Lib hiding intOf

/-- A graph's cells: how many; bases; ceilings; for whom each waits. -/
def gG (G : Gs) : Nat → Value := fun i => if i = 0 then .int .i64 (G.n : Nat) else if i < 17 then .int .i64 (G.b (i - 1)) else if i < 33 then .int .i64 (G.c (i - 17)) else .int .i64 (G.w (i - 33))
/-- The reference's graph in memory. -/
def Rr (w : World) (rb : Nat) (G : Gs) : Prop := w.heap[rb]? = some (.cells (vcl (gG G) 49 0).toArray 39 (0, 0))
section
variable {w w' : World} {rb : Nat} {G : Gs}
theorem Rr.keep {rows : List Nat} (h : Rr w rb G) (hk : Kp w w' rows) (hr : rb ∉ rows) : Rr w' rb G := (hk.block rb (lt_of_block h) hr).trans h
theorem Rr.same (h : Rr w rb G) (hk : Kp w w' []) : Rr w' rb G := h.keep hk (by simp)
theorem Rr.lt (h : Rr w rb G) : rb < w.heap.size := lt_of_block h
theorem Rr.free (h : Rr w rb G) (i : Nat) : w.frozen? ⟨rb, i, none⟩ = false := by unfold Rr at h; simp [World.frozen?, h]
theorem Rr.n (h : Rr w rb G) : w.cell? ⟨rb, 0, none⟩ = some (.int .i64 (G.n : Nat)) := vcl_cell h 0 (by omega)
theorem gG_b (G : Gs) {t : Nat} (ht : t < 16) : gG G (1 + t) = .int .i64 (G.b t) := by
  unfold gG
  rw [if_neg (by omega), if_pos (by omega), show 1 + t - 1 = t by omega]
theorem gG_c (G : Gs) {t : Nat} (ht : t < 16) : gG G (17 + t) = .int .i64 (G.c t) := by
  unfold gG
  rw [if_neg (by omega), if_neg (by omega), if_pos (by omega), show 17 + t - 17 = t by omega]
theorem gG_w (G : Gs) (t : Nat) : gG G (33 + t) = .int .i64 (G.w t) := by
  unfold gG
  rw [if_neg (by omega), if_neg (by omega), if_neg (by omega), show 33 + t - 33 = t by omega]
theorem Rr.b (h : Rr w rb G) {t : Nat} (ht : t < 16) : w.cell? ⟨rb, 1 + t, none⟩ = some (.int .i64 (G.b t)) := by rw [vcl_cell h (1 + t) (by omega), gG_b G ht]
theorem Rr.c (h : Rr w rb G) {t : Nat} (ht : t < 16) : w.cell? ⟨rb, 17 + t, none⟩ = some (.int .i64 (G.c t)) := by rw [vcl_cell h (17 + t) (by omega), gG_c G ht]
theorem Rr.wt (h : Rr w rb G) {t : Nat} (ht : t < 16) : w.cell? ⟨rb, 33 + t, none⟩ = some (.int .i64 (G.w t)) := by rw [vcl_cell h (33 + t) (by omega), gG_w G t]
theorem Rr.setB (h : Rr w rb G) {t : Nat} (ht : t < 16) (x : Int) : Rr (w.setCell ⟨rb, 1 + t, none⟩ (.int .i64 x)) rb { G with b := upd G.b t x } := by
  refine vcl_heap h (by omega) fun i hi => ?_
  unfold gG upd
  by_cases e : i = 1 + t
  · subst e
    simp only [show ¬ 1 + t = 0 by omega, show 1 + t < 17 by omega, show 1 + t - 1 = t by omega, if_true, if_false]
  · rw [if_neg e]
    by_cases h0 : i = 0
    · simp [h0]
    · simp only [h0, if_false, show ¬ i - 1 = t by omega]
theorem Rr.setC (h : Rr w rb G) {t : Nat} (ht : t < 16) (x : Int) : Rr (w.setCell ⟨rb, 17 + t, none⟩ (.int .i64 x)) rb { G with c := upd G.c t x } := by
  refine vcl_heap h (by omega) fun i hi => ?_
  unfold gG upd
  by_cases e : i = 17 + t
  · subst e
    simp only [show ¬ 17 + t = 0 by omega, show ¬ 17 + t < 17 by omega, show 17 + t < 33 by omega, show 17 + t - 17 = t by omega, if_true, if_false]
  · rw [if_neg e]
    by_cases h0 : i < 17
    · simp [h0]
    · simp only [h0, if_false, show ¬ i - 17 = t by omega]
theorem Rr.setW (h : Rr w rb G) {t : Nat} (ht : t < 16) (x : Int) : Rr (w.setCell ⟨rb, 33 + t, none⟩ (.int .i64 x)) rb { G with w := upd G.w t x } := by
  refine vcl_heap h (by omega) fun i hi => ?_
  unfold gG upd
  by_cases e : i = 33 + t
  · subst e
    simp only [show ¬ 33 + t = 0 by omega, show ¬ 33 + t < 17 by omega, show ¬ 33 + t < 33 by omega, show 33 + t - 33 = t by omega, if_true, if_false]
  · rw [if_neg e]
    by_cases h0 : i < 33
    · simp [h0]
    · simp only [h0, if_false, show ¬ i - 33 = t by omega]
end
set_option maxRecDepth 100000 in
theorem rnew_no (w : World) (k : Int) (hk : ¬ (1 ≤ k ∧ k ≤ 16)) : Calls Try.prog 9 #[.int .i64 k] w fun e w' => e = .returned (.pointer none) ∧ w' = w := by
  by_cases h : k < 1
  · clear hk
    go_enter Try.func9, Try.ntmps9
    go_wp2
    go_ret
    exact ⟨rfl, rfl⟩
  · have h2 : 16 < k := by omega
    clear hk
    go_enter Try.func9, Try.ntmps9
    go_wp2
    go_ret
    exact ⟨rfl, rfl⟩
/-- A graph in which the first k wait for nobody, and the others for 0. -/
def halfG (n k : Nat) : Gs := ⟨n, fun _ => 0, fun _ => 0, fun t => if t < k then -1 else 0⟩
theorem rr_half (w : World) (n : Nat) : Rr (w.alloc (.cells #[.int .i64 (n : Nat), .int .i64 0, .int .i64 0, .int .i64 0, .int .i64 0, .int .i64 0, .int .i64 0, .int .i64 0, .int .i64 0, .int .i64 0, .int .i64 0, .int .i64 0, .int .i64 0, .int .i64 0, .int .i64 0, .int .i64 0, .int .i64 0,
    .int .i64 0, .int .i64 0, .int .i64 0, .int .i64 0, .int .i64 0, .int .i64 0, .int .i64 0, .int .i64 0, .int .i64 0, .int .i64 0, .int .i64 0, .int .i64 0, .int .i64 0, .int .i64 0, .int .i64 0, .int .i64 0,
    .int .i64 0, .int .i64 0, .int .i64 0, .int .i64 0, .int .i64 0, .int .i64 0, .int .i64 0, .int .i64 0, .int .i64 0, .int .i64 0, .int .i64 0, .int .i64 0, .int .i64 0, .int .i64 0, .int .i64 0, .int .i64 0] 39)) w.heap.size (halfG n 0) := World.alloc_heap_new w _
theorem rr_half_step {w : World} {rb n k : Nat} (h : Rr w rb (halfG n k)) (hk : k < 16) : Rr (w.setCell ⟨rb, 33 + k, none⟩ (.int .i64 (-1))) rb (halfG n (k + 1)) := by
  have := h.setW hk (-1)
  unfold Rr at this ⊢
  rw [this]
  congr 3
  apply vcl_congr
  intro j hj
  unfold gG halfG upd
  by_cases a : 0 + j = 0
  · rw [if_pos a, if_pos a]
  by_cases b : 0 + j < 17
  · rw [if_neg a, if_neg a, if_pos b, if_pos b]
  by_cases c : 0 + j < 33
  · rw [if_neg a, if_neg a, if_neg b, if_neg b, if_pos c, if_pos c]
  simp only [a, b, c, if_false]
  by_cases d : 0 + j - 33 = k
  · rw [if_pos d, if_pos (by omega)]
  · rw [if_neg d]
    by_cases e : 0 + j - 33 < k
    · rw [if_pos e, if_pos (by omega)]
    · rw [if_neg e, if_neg (by omega)]
theorem rr_half_end {w : World} {rb n : Nat} (h : Rr w rb (halfG n 16)) : Rr w rb (newG n) := by
  unfold Rr at h ⊢
  rw [h]
  congr 3
set_option maxRecDepth 100000 in
theorem rnew_ok (w : World) (n : Nat) (h1 : 1 ≤ n) (h2 : n ≤ 16) : Calls Try.prog 9 #[.int .i64 n] w fun e w' => e = .returned (.pointer (some ⟨w.heap.size, 0, none⟩)) ∧ Rr w' w.heap.size (newG n) ∧ Kp w w' [] := by
  have h1' : (1 : Int) ≤ n := by omega
  have h2' : (n : Int) ≤ 16 := by omega
  have H0 := hid (rr_half w n)
  go_enter Try.func9, Try.ntmps9
  go_wp2_with fail
  go_loopw [4] (fun vi wr => ∃ k : Nat, k ≤ 16 ∧ vi = .int .i64 k ∧ Hid (Rr wr w.heap.size (halfG n k) ∧ Kp w wr [])) (fun vi _ => 16 - (intOf vi).toNat)
  case atStart => exact ⟨0, by omega, rfl, hid ⟨H0.out, Kp.alloc _ _ _⟩⟩
  case round =>
    obtain ⟨k, hk, rfl, hR⟩ := hrel
    have h0 := hR.out.1
    by_cases hlt : k < 16
    · have hltI : (k : Int) < 16 := by omega
      have c0 := h0.wt hlt
      have f0 := h0.free (33 + k)
      have R2 := hid (show Rr (wr.setCell ⟨w.heap.size, 33 + k, none⟩ (.int .i64 (-1))) w.heap.size (halfG n (k + 1)) ∧ Kp w (wr.setCell ⟨w.heap.size, 33 + k, none⟩ (.int .i64 (-1))) [] from
        ⟨rr_half_step h0 hlt, hR.out.2.past (Kp.setCell wr ⟨w.heap.size, 33 + k, none⟩ _) (by intro j hj hl; simp at hj; omega)⟩)
      clear h0
      go_wp2_with fail
      go_roundw
      case rel => exact ⟨k + 1, by omega, by simp, R2⟩
      case measure => simp [intOf]; omega
    · have hltI : ¬ (k : Int) < 16 := by omega
      have e : k = 16 := by omega
      have R2 := hid (show Rr wr w.heap.size (newG n) ∧ Kp w wr [] from ⟨rr_half_end (e ▸ h0), hR.out.2⟩)
      clear h0 e
      go_wp2_with fail
      go_ret
      exact ⟨rfl, R2.out⟩
theorem mayT_iff (G : Gs) (t : Int) : mayT G t ↔ 0 ≤ t ∧ t < G.n := Iff.rfl
set_option maxRecDepth 100000 in
theorem rin_any (w : World) (rb : Nat) (G : Gs) (t : Int) (h : Rr w rb G) : Calls Try.prog 23 #[.pointer (some ⟨rb, 0, none⟩), .int .i64 t] w fun e w' => e = .returned (.bool (decide (mayT G t))) ∧ w' = w := by
  have c0 := h.n
  clear h
  by_cases h0 : 0 ≤ t
  · by_cases h1 : t < G.n
    · have e : decide (mayT G t) = true := by simp [mayT, h0, h1]
      rw [e]
      clear e
      go_enter Try.func23, Try.ntmps23
      go_wp2
      go_ret
      exact ⟨rfl, rfl⟩
    · have e : decide (mayT G t) = false := by simp [mayT, h1]
      rw [e]
      clear e
      go_enter Try.func23, Try.ntmps23
      go_wp2
      go_ret
      exact ⟨rfl, rfl⟩
  · have e : decide (mayT G t) = false := by simp [mayT, h0]
    rw [e]
    clear e
    go_enter Try.func23, Try.ntmps23
    go_wp2
    go_ret
    exact ⟨rfl, rfl⟩
end Go.Proofs.Ytomdnppnabncaaa
