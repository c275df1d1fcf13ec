/- Next: what Peek tells, and it is taken. -/
import Derived.Test.YtoenipaccnpihaaTk
namespace Go.Proofs.Ytoenipaccnpihaa
open Go.RowKit Go.Shelf Go.Sort Go.Maps
open Go.Lib hiding intOf
attribute [local go_sem] Oper.semAt_some

/-- What is left behind Next. -/
def nxL (T : Nat) (L : El) (t : Int) (W : Nat) : El := if nxN T L t W ≤ 31 then rm L t.toNat (nxN T L t W) else L
theorem free_two {w : World} {r : Nat} {u v : Value} {t : TypeId} (h : w.heap[r]? = some (.cells #[u, v] t (0, 0))) (i : Nat) : w.frozen? ⟨r, i, none⟩ = false := by simp [World.frozen?, h]
theorem set_both {w : World} {b t : Nat} {a0 a1 u v : Value} (h : w.heap[b]? = some (.cells #[a0, a1] t (0, 0))) : ((w.setCell ⟨b, 0, none⟩ u).setCell ⟨b, 1, none⟩ v).heap[b]? = some (.cells #[u, v] t (0, 0)) := by
  rw [heap_setCell_same _ b 1 _ t _ (heap_setCell_same w b 0 _ t _ h)]
  rfl
theorem both_alloc {w : World} {b t : Nat} {a0 a1 u v : Value} (o : Obj) (h : w.heap[b]? = some (.cells #[a0, a1] t (0, 0))) : (((w.setCell ⟨b, 0, none⟩ u).setCell ⟨b, 1, none⟩ v).alloc o).heap[b]? = some (.cells #[u, v] t (0, 0)) := by
  have h1 := set_both (u := u) (v := v) h
  have := lt_of_block h1
  exact ((Kp.alloc _ o []).block b this (by simp)).trans h1
theorem kp_both (w : World) (b : Nat) (u v : Value) : Kp w ((w.setCell ⟨b, 0, none⟩ u).setCell ⟨b, 1, none⟩ v) [b] := (Kp.setCell w ⟨b, 0, none⟩ u).trans (Kp.setCell _ ⟨b, 1, none⟩ v)
set_option maxRecDepth 100000 in
theorem next_zero (w : World) (p : Option Addr) (t : Int) (W : Nat) (hW : W < 4294967296) (h : Zs w p) : Calls Try.prog 16 #[.pointer p, .int .i64 t, .int .u32 W] w fun e w' => e = .returned (.tuple #[Sv 0 0, .bool false]) ∧ Kp w w' [] := by
  have HK := hid (Kp.alloc w (.cells #[.int .i64 0, .int .i64 0] 47) [])
  have H := hid (peek_zero _ p t W hW (h.keep HK.out))
  unfold Sv at H ⊢
  clear h
  go_enter Try.func16, Try.ntmps16
  go_wp2_with fail
  refine H.out.mono ?_
  rintro e w1 ⟨rfl, hk⟩
  have K1 := hid hk
  have hs := hk.size
  have c0 := hk.block w.heap.size (by simp) (by simp)
  rw [heap_alloc_new] at c0
  clear hk
  have hlt : w.heap.size < w1.heap.size := by simp at hs; omega
  have d0 := cell_two0 c0
  have d1 := cell_two1 c0
  have f0 := free_two c0 0
  have f1 := free_two c0 1
  clear H
  go_wp2
  refine bodyPost_ret (results_cell_row2 rfl _ _ w.heap.size 47 #[.int .i64 0, .int .i64 0] (0, 0) _ rfl (both_alloc _ c0) Try.underlying47 rfl (size47 _ _)) rfl ?_
  exact ⟨rfl, (HK.out.trans K1.out).past ((kp_both w1 w.heap.size _ _).trans (Kp.alloc _ _ _)) (by intro k hk hl; simp at hk; omega)⟩
set_option maxRecDepth 100000 in
theorem next_none (w : World) (sb : Nat) (R : List Nat) (T S : Nat) (M : Nat → Nat) (L : El) (t : Int) (W : Nat) (hW : W < 4294967296) (h : Sg w sb R T S M L) (hn : ¬ nxN T L t W ≤ 31) : Calls Try.prog 16 #[.pointer (some ⟨sb, 0, none⟩), .int .i64 t, .int .u32 W] w fun e w' => e = .returned (.tuple #[Sv 0 0, .bool false]) ∧ Kp w w' [] := by
  have HK := hid (Kp.alloc w (.cells #[.int .i64 0, .int .i64 0] 47) [])
  have H := hid (peek_none _ sb R T S M L t W hW (h.same HK.out) hn)
  unfold Sv at H ⊢
  clear h hn
  go_enter Try.func16, Try.ntmps16
  go_wp2_with fail
  refine H.out.mono ?_
  rintro e w1 ⟨rfl, hk⟩
  have K1 := hid hk
  have hs := hk.size
  have c0 := hk.block w.heap.size (by simp) (by simp)
  rw [heap_alloc_new] at c0
  clear hk
  have hlt : w.heap.size < w1.heap.size := by simp at hs; omega
  have d0 := cell_two0 c0
  have d1 := cell_two1 c0
  have f0 := free_two c0 0
  have f1 := free_two c0 1
  clear H
  go_wp2
  refine bodyPost_ret (results_cell_row2 rfl _ _ w.heap.size 47 #[.int .i64 0, .int .i64 0] (0, 0) _ rfl (both_alloc _ c0) Try.underlying47 rfl (size47 _ _)) rfl ?_
  exact ⟨rfl, (HK.out.trans K1.out).past ((kp_both w1 w.heap.size _ _).trans (Kp.alloc _ _ _)) (by intro k hk hl; simp at hk; omega)⟩
set_option maxRecDepth 100000 in
theorem next_some (w : World) (sb : Nat) (R : List Nat) (T S : Nat) (M : Nat → Nat) (L : El) (t W n : Nat) (v : Int) (h : Sg w sb R T S M L) (hq : q L t n ≠ []) (hp : ∀ z, Sg z sb R T S M L → Calls Try.prog 23 #[.pointer (some ⟨sb, 0, none⟩), .int .i64 t, .int .u32 W] z fun e w' => e = .returned (.tuple #[Sv n v, .bool true]) ∧ Kp z w' []) : Calls Try.prog 16 #[.pointer (some ⟨sb, 0, none⟩), .int .i64 t, .int .u32 W] w fun e w' => e = .returned (.tuple #[Sv n v, .bool true]) ∧ To w w' sb R T S M (rm L t n) := by
  have HR := hid h.lt
  have HG := hid (fun (z : World) (hk : Kp w z []) => take_any z sb R T S M L t n (h.same hk) hq)
  have HK := hid (Kp.alloc w (.cells #[.int .i64 0, .int .i64 0] 47) [])
  have H := hid (hp _ (h.same HK.out))
  unfold Sv at H ⊢
  clear h hp
  go_enter Try.func16, Try.ntmps16
  go_wp2_with fail
  refine H.out.mono ?_
  rintro e w1 ⟨rfl, hk⟩
  have K1 := hid hk
  have hs := hk.size
  have c0 := hk.block w.heap.size (by simp) (by simp)
  rw [heap_alloc_new] at c0
  clear hk
  have hlt : w.heap.size < w1.heap.size := by simp at hs; omega
  have d0 := cell_two0 c0
  have d1 := cell_two1 c0
  have f0 := free_two c0 0
  have f1 := free_two c0 1
  clear H
  go_wp2_with fail
  refine (HG.out _ ((HK.out.trans K1.out).trans (Kp.alloc _ _ _))).mono ?_
  rintro e w2 ⟨rfl, hT⟩
  have k2 := hT.kp
  have b0 := (k2.block w.heap.size (by simp; omega) (fun hm => by have := HR.out _ hm; omega)).trans (((Kp.alloc w1 (.cells #[.int .i64 n, .int .i64 v] 47) []).block w.heap.size hlt (by simp)).trans c0)
  have b1 := (k2.block w1.heap.size (by simp) (fun hm => by have := HR.out _ hm; omega)).trans (heap_alloc_new w1 (.cells #[.int .i64 n, .int .i64 v] 47))
  have HB := hid b0
  have e0 := cell_two0 b0
  have e1 := cell_two1 b0
  have g0 := free_two b0 0
  have g1 := free_two b0 1
  have x0 := cell_two0 b1
  have x1 := cell_two1 b1
  have HT := hid (show To w ((w2.setCell ⟨w.heap.size, 0, none⟩ (.int .i64 n)).setCell ⟨w.heap.size, 1, none⟩ (.int .i64 v)) sb R T S M (rm L t n) from by
    obtain ⟨R1, s1, n1, k1⟩ := hT
    have hz : (w1.alloc (.cells #[.int .i64 n, .int .i64 v] 47)).heap.size = w1.heap.size + 1 := by simp
    refine ⟨R1, s1.keep (kp_both w2 w.heap.size _ _) (fun k hk hm => ?_), fun k hk => (n1 k hk).imp id (fun q => by omega), (((HK.out.trans K1.out).trans (Kp.alloc _ _ _)).nil.trans k1).past (kp_both w2 w.heap.size _ _) (fun k hk hl => ?_)⟩
    · simp at hm
      subst hm
      rcases n1 _ hk with q | q
      · have := HR.out _ q; omega
      · omega
    · simp at hk
      omega)
  clear hT k2 b0 b1 c0 d0 d1 f0 f1
  go_wp2
  refine bodyPost_ret (results_cell_row2 rfl _ _ w.heap.size 47 #[.int .i64 n, .int .i64 v] (0, 0) _ rfl (set_both HB.out) Try.underlying47 rfl (size47 _ _)) rfl ?_
  exact ⟨rfl, HT.out⟩
/-- Next, of any thread within any set. -/
theorem next_any (w : World) (sb : Nat) (R : List Nat) (T S : Nat) (M : Nat → Nat) (L : El) (t : Int) (W : Nat) (hW : W < 4294967296) (h : Sg w sb R T S M L) : Calls Try.prog 16 #[.pointer (some ⟨sb, 0, none⟩), .int .i64 t, .int .u32 W] w fun e w' => e = .returned (.tuple #[nxV T L t W, .bool (nxB T L t W)]) ∧ To w w' sb R T S M (nxL T L t W) := by
  by_cases hn : nxN T L t W ≤ 31
  · have hp := fun z (hz : Sg z sb R T S M L) => peek_any z sb R T S M L t W hW hz
    unfold nxV nxB nxL at *
    rw [if_pos hn, if_pos hn, decide_eq_true hn]
    rw [if_pos hn, decide_eq_true hn] at hp
    obtain ⟨k, rfl, hk, e⟩ := nxN_yes hn
    have hs := low_some (L := L) (t := k) (W := W) (by omega)
    rw [e] at hp ⊢
    exact next_some w sb R T S M L k W _ _ h hs.2.2.1 hp
  · unfold nxV nxB nxL
    rw [if_neg hn, if_neg hn, decide_eq_false hn]
    refine (next_none w sb R T S M L t W hW h hn).mono ?_
    rintro e w' ⟨rfl, hk⟩
    exact ⟨rfl, To.stay h hk⟩
theorem Ok.nx {T S : Nat} {L : El} (h : Ok T S L) (t : Int) (W : Nat) : Ok T S (nxL T L t W) := by
  unfold nxL
  split
  · exact h.rm _ _
  · exact h
end Go.Proofs.Ytoenipaccnpihaa
