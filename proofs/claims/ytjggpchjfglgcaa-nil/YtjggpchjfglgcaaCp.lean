/- New, Copy, Push. -/
import Derived.BigQuiet
import Derived.Deep.MidRow
import Derived.Deep.WholeRow
import Derived.Deep.RegionHeldLaw
import Derived.Test.YtjggpchjfglgcaaCk
namespace Go.Proofs.Ytjggpchjfglgcaa
open Go.RowKit Go.Shelf Go.Lib
attribute [local go_sem] Oper.semAt_some

theorem cell_two0 {w : World} {r : Nat} {u v : Value} {t : TypeId} (h : w.heap[r]? = some (.cells #[u, v] t (0, 0))) : w.cell? ⟨r, 0, none⟩ = some u := by simp [World.cell?, h]
theorem cell_two1 {w : World} {r : Nat} {u v : Value} {t : TypeId} (h : w.heap[r]? = some (.cells #[u, v] t (0, 0))) : w.cell? ⟨r, 1, none⟩ = some v := by simp [World.cell?, h]
theorem free_two {w : World} {r : Nat} {u v : Value} {t : TypeId} (h : w.heap[r]? = some (.cells #[u, v] t (0, 0))) (i : Nat) : w.frozen? ⟨r, i, none⟩ = false := by simp [World.frozen?, h]
theorem free_one {w : World} {b : Nat} {v : Value} {t : TypeId} (h : w.heap[b]? = some (.cells #[v] t (0, 0))) : w.frozen? ⟨b, 0, none⟩ = false := by simp [World.frozen?, h]
theorem cell_one {w : World} {b : Nat} {v : Value} {t : TypeId} (h : w.heap[b]? = some (.cells #[v] t (0, 0))) : w.cell? ⟨b, 0, none⟩ = some v := by simp [World.cell?, h]
theorem cc_new (w : World) : Cc (w.alloc (.cells #[.bool true, .bool false, .bool true, .bool false, .bool false, .int .i64 0, .int .i64 0, .int .i64 0, .int .i64 0, .int .i64 0, .int .i64 0, .int .i64 0, .int .i64 0, .int .i64 0, .int .i64 0, .int .i64 0, .int .i64 0, .int .i64 0, .int .i64 0, .int .i64 0, .int .i64 0, .int .i64 0] 59)) w.heap.size newC := heap_alloc_new w _
set_option maxRecDepth 100000 in
theorem new_any (w : World) : Calls Try.prog 7 #[] w fun e w' => e = .returned (.pointer (some ⟨w.heap.size, 0, none⟩)) ∧ Cc w' w.heap.size newC ∧ Kp w w' [] := by
  go_enter Try.func7, Try.ntmps7
  go_wp2_with fail
  go_ret
  exact ⟨rfl, cc_new w, Kp.alloc _ _ _⟩
theorem size59 (F : Nat → Value) : (Try.prog.info? 59).map (·.size) = some (vcl F 22 0).toArray.size := by
  rw [List.size_toArray, vcl_length]
  kernel_rfl
theorem one59 (M : Cn) (n : Nat) : (vcl (canN M n) 22 0).toArray.all (·.oneCell') = true := by
  refine all_oneCell_toArray fun v hv => ?_
  obtain ⟨j, rfl⟩ := vcl_mem _ _ hv
  unfold canN clV
  repeat' split
  all_goals rfl
set_option maxRecDepth 100000 in
theorem copy_any {w : World} {cb : Nat} {M : Cn} (h : Cc w cb M) : Calls Try.prog 31 #[.pointer (some ⟨cb, 0, none⟩)] w fun e w' => e = .returned (.pointer (some ⟨w.heap.size, 0, none⟩)) ∧ Cc w' w.heap.size M ∧ Kp w w' [] := by
  have HZ := hid (cz_no h.cw)
  have HT := hid (show w.heap[cb]? = some (.cells (vcl (canN M M.L.length) 22 0).toArray 59 (0, 0)) from h)
  have HN := hid (show Cc (w.alloc (.cells (vcl (canN M M.L.length) 22 0).toArray 59)) w.heap.size M from heap_alloc_new w _)
  have O := hid (one59 M M.L.length)
  have Z := hid (size59 (canN M M.L.length))
  obtain ⟨A, hA⟩ : ∃ A, (vcl (canN M M.L.length) 22 0).toArray = A := ⟨_, rfl⟩
  have hs : A.size = 22 := by rw [← hA, List.size_toArray, vcl_length]
  have HS := hid hs
  rw [hA] at HT HN O Z
  clear h hA hs
  go_enter Try.func31, Try.ntmps31
  go_wp2_with (first | (go_at_call 35; refine HZ.out.mono ?_; rintro e w1 ⟨rfl, hw1⟩; obtain rfl := hw1.symm; clear hw1) | (refine wpList_load_row rfl 59 (.tmp 7) rfl cb rfl 59 A (0, 0) _ HT.out Try.underlying59 rfl Z.out ?_) | (refine wpList_store_new rfl 59 (.tmp 3) (.tmp 8) rfl 59 _ A rfl rfl Z.out (by rw [HS.out]; rfl) O.out ?_))
  go_ret
  exact ⟨rfl, HN.out, Kp.alloc _ _ _⟩
set_option maxRecDepth 100000 in
theorem copy_zero (w : World) (p : Option Addr) (h : Zc w p) : Calls Try.prog 31 #[.pointer p] w fun e w' => e = .returned (.pointer none) ∧ w' = w := by
  have HZ := hid (cz_yes w p h)
  clear h
  go_enter Try.func31, Try.ntmps31
  go_wp2_with (first | (go_at_call 35; refine HZ.out.mono ?_; rintro e w1 ⟨rfl, hw1⟩; obtain rfl := hw1.symm; clear hw1))
  go_ret
  exact ⟨rfl, rfl⟩
set_option maxRecDepth 100000 in
theorem push_zero (w : World) (p : Option Addr) (h : Zc w p) (x y : Int) : Calls Try.prog 18 #[.pointer p, .agg #[.int .i64 x, .int .i64 y]] w fun e w' => e = .returned (.int .i64 1) ∧ Kp w w' [] := by
  have HZ := hid (cz_yes (w.alloc (.cells #[.int .i64 x, .int .i64 y] 30)) p (h.keep (Kp.alloc _ _ _)))
  clear h
  go_enter Try.func18, Try.ntmps18
  go_wp2_with (first | (go_at_call 35; refine HZ.out.mono ?_; rintro e w1 ⟨rfl, hw1⟩; obtain rfl := hw1.symm; clear hw1))
  go_ret
  exact ⟨rfl, Kp.alloc _ _ _⟩
set_option maxRecDepth 100000 in
set_option maxHeartbeats 1000000 in
theorem push_any {w : World} {cb : Nat} {M : Cn} (h : Cc w cb M) (hl : M.L.length ≤ 8) (x y : Int) : Calls Try.prog 18 #[.pointer (some ⟨cb, 0, none⟩), .agg #[.int .i64 x, .int .i64 y]] w fun e w' => e = .returned (.int .i64 (pushE M x)) ∧ Cc w' cb (pushM M x y) ∧ Kp w w' [cb] := by
  have ka := Kp.alloc w (.cells #[.int .i64 x, .int .i64 y] 30) []
  have h1 := h.same ka
  have hb := heap_alloc_new w (.cells #[.int .i64 x, .int .i64 y] 30)
  obtain ⟨b, hbq⟩ : ∃ b, w.heap.size = b := ⟨_, rfl⟩
  have hcb : cb < b := by rw [← hbq]; exact h.cw.lt
  obtain ⟨W, hW⟩ : ∃ W, w.alloc (.cells #[.int .i64 x, .int .i64 y] 30) = W := ⟨_, rfl⟩
  rw [hW] at ka h1 hb
  rw [hbq] at hb
  have HZ := hid (cz_no h1.cw)
  have HP := hid (mayP_any W x)
  have K1 := hid ka
  have H1 := hid h1
  have x0 := cell_two0 hb
  have x1 := cell_two1 hb
  have c5 := h1.cw.c5
  have f5 := h1.cw.free 5
  have HB := hid hb
  clear h ka hb
  obtain ⟨n, hn⟩ : ∃ n, M.L.length = n := ⟨_, rfl⟩
  rw [hn] at c5 hl
  unfold pushE pushM
  rw [hn]
  obtain ⟨B, hB⟩ : ∃ B, mayPr x = B := ⟨_, rfl⟩
  rw [hB] at HP ⊢
  cases B with
  | false =>
    clear h1 hB hn
    go_enter Try.func18, Try.ntmps18
    go_wp2_with fail
    try simp only [hW, hbq]
    refine HZ.out.mono ?_
    rintro e w1 ⟨rfl, hw1⟩; obtain rfl := hw1.symm
    go_wp2_with fail
    refine HP.out.mono ?_
    rintro e w1 ⟨rfl, hw1⟩; obtain rfl := hw1.symm
    go_wp2_with fail
    go_ret
    exact ⟨rfl, H1.out, K1.out.nil⟩
  | true =>
    by_cases h8 : n = 8
    · subst h8
      clear h1 hB hn
      go_enter Try.func18, Try.ntmps18
      go_wp2_with fail
      try simp only [hW, hbq]
      refine HZ.out.mono ?_
      rintro e w1 ⟨rfl, hw1⟩; obtain rfl := hw1.symm
      go_wp2_with fail
      refine HP.out.mono ?_
      rintro e w1 ⟨rfl, hw1⟩; obtain rfl := hw1.symm
      go_wp2_with fail
      go_ret
      exact ⟨rfl, H1.out, K1.out.nil⟩
    · have hn8 : n < 8 := by omega
      have hnI : (n : Int) < 8 := by omega
      have hq : ((n : Int) == 8) = false := by simp; omega
      have p0 := h1.cw.p0 hn8
      have p1 := h1.cw.p1 hn8
      have fr := h1.cw.free
      have hwr : IntKind.i64.wrap ((n : Int) + 1) = (n : Int) + 1 := IntWalk.i64_in _ ⟨by omega, by omega⟩
      have HN := hid hn
      have HS := hid (show Cw (((W.drew.setCell ⟨cb, 6 + n * 2, none⟩ (.int .i64 x)).setCell ⟨cb, 6 + n * 2 + 1, none⟩ (.int .i64 y))) cb { M with L := M.L ++ [(x, y)] } n from by
        have h2 := h1.cw.keep (Kp.drew W []) (by simp)
        rw [hn] at h2
        exact h2.put (x := (x, y)) hn8 (fun j hj => by rw [atL_append, hn]))
      clear h1 hB hn
      go_enter Try.func18, Try.ntmps18
      go_wp2_with fail
      try simp only [hW, hbq]
      refine HZ.out.mono ?_
      rintro e w1 ⟨rfl, hw1⟩; obtain rfl := hw1.symm
      go_wp2_with fail
      refine HP.out.mono ?_
      rintro e w1 ⟨rfl, hw1⟩; obtain rfl := hw1.symm
      go_wp2_with fail
      go_region
      obtain ⟨y0, hy0⟩ : ∃ y0, (W.drew.setCell ⟨cb, 6 + n * 2, none⟩ (.int .i64 x)).setCell ⟨cb, 6 + n * 2 + 1, none⟩ (.int .i64 y) = y0 := ⟨_, rfl⟩
      have hy1 : ((W.setCell ⟨cb, 6 + n * 2, none⟩ (.int .i64 x)).setCell ⟨cb, 6 + n * 2 + 1, none⟩ (.int .i64 y)).drew = y0 := hy0
      have KY := hid (show Kp w y0 [cb] by rw [← hy0]; exact ((K1.out.nil.trans (Kp.drew _ _)).trans (Kp.setCell _ ⟨cb, 6 + n * 2, none⟩ _)).trans (Kp.setCell _ ⟨cb, 6 + n * 2 + 1, none⟩ _))
      simp only [hy0] at HS
      simp only [hy1]
      have g5 := HS.out.c5
      have gf := HS.out.free 5
      clear hy0 hy1 x0 x1 c5 f5 p0 p1 fr
      go_wp2_with fail
      go_ret
      have h9 := HS.out.s5 (n + 1)
      refine ⟨rfl, ?_, KY.out.trans (Kp.setCell _ _ _)⟩
      unfold Cc
      simp only [List.length_append, List.length_singleton, HN.out]
      exact h9
end Go.Proofs.Ytjggpchjfglgcaa
