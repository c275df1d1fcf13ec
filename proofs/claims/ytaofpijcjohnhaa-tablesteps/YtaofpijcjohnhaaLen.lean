/- Len: how many are taken. -/
import Derived.Test.YtaofpijcjohnhaaAll
namespace Go.Proofs.Ytaofpijcjohnhaa
open Go.RowKit Go.Shelf
attribute [local go_sem] Oper.semAt_some

theorem cells_kept {W W' : World} {row : Option Nat} {b B : Nat} {c : Array Value} {t : TypeId} {f : Nat × Nat} (h : W.heap[b]? = some (.cells c t f)) (hg : W.grownBy W' row) (hr : ∀ r, row = some r → B ≤ r ∧ ∃ o : Obj, W.heap[r]? = some o ∧ o.isCells = false) : W'.heap[b]? = some (.cells c t f) := by
  refine (hg.block b (lt_of_block h) ?_).trans h
  intro e
  obtain ⟨-, o, ho, hc⟩ := hr b e.symm
  rw [h] at ho
  cases ho
  simp [Obj.isCells] at hc
theorem kc_put (D : Nat) (W : World) (l : Nat) (o o' : Obj) (h : W.heap[l]? = some o) (hc : o.isCells = false) : Kc D W (W.putObj l o') := by
  refine ⟨by simp [World.putObj], fun k c t f _ hk => ?_⟩
  have hne : k ≠ l := by
    rintro rfl
    rw [h] at hk
    cases hk
    simp [Obj.isCells] at hc
  exact (World.putObj_heap_other hne).trans hk
theorem cell_one {w : World} {b : Nat} {v : Value} {t : TypeId} (h : w.heap[b]? = some (.cells #[v] t (0, 0))) : w.cell? ⟨b, 0, none⟩ = some v := by simp [World.cell?, h]
theorem free_one {w : World} {b : Nat} {v : Value} {t : TypeId} (h : w.heap[b]? = some (.cells #[v] t (0, 0))) : w.frozen? ⟨b, 0, none⟩ = false := by simp [World.frozen?, h]
theorem set_one {w : World} {b : Nat} {v x : Value} {t : TypeId} (h : w.heap[b]? = some (.cells #[v] t (0, 0))) : (w.setCell ⟨b, 0, none⟩ x).heap[b]? = some (.cells #[x] t (0, 0)) := by
  rw [heap_setCell_same w b 0 _ t x h]
  rfl
theorem cell_new1 {w : World} {o : Obj} {v : Value} {t : TypeId} : ((w.alloc o).alloc (.cells #[v] t)).cell? ⟨w.heap.size + 1, 0, none⟩ = some v := by
  have := heap_alloc_new (w.alloc o) (.cells #[v] t)
  simp only [World.size_alloc] at this
  exact cell_one this

set_option maxRecDepth 100000 in
set_option maxHeartbeats 4000000 in
theorem len_its (w : World) (p : Option Addr) (T : Pl) (hI : Its w p T) : Calls Try.prog 19 #[.pointer p] w fun e w' => e = .returned (.int .i64 (tkp T 16).length) ∧ Kp w w' [] := by
  refine (callsIn_wide (n := 6)).1 ?_
  have h1 : 1 ≤ 6 := by decide
  have hf26 : Fence.wide.fn 26 := trivial
  have A1 := hid ((Kp.alloc w (.cells #[.int .i64 0] 3) []).trans (Kp.alloc _ (.cells #[.pointer p] 23) []))
  have HI := hid hI
  clear hI
  refine callsIn_of_wp_marks Try.func19 rfl trivial ?_ rfl
  simp only [Try.ntmps19, List.size_toArray, List.length_cons, List.length_nil, Nat.reduceAdd, Nat.reduceSub, Array.replicate_succ, Array.replicate_zero, List.push_toArray, List.append_toArray, List.nil_append, List.cons_append]
  gi_wp2_with (gi_at_call 26; refine (all_in _ _ _).mono ?_; rintro e w' ⟨rfl, rfl⟩)
  obtain ⟨W0, hW0⟩ : ∃ W0, (w.alloc (.cells #[.int .i64 0] 3)).alloc (.cells #[.pointer p] 23) = W0 := ⟨_, rfl⟩
  have hsz : W0.heap.size = w.heap.size + 2 := by rw [← hW0]; simp
  have hbx : W0.cell? ⟨w.heap.size + 1, 0, none⟩ = some (.pointer p) := by rw [← hW0]; exact cell_new1
  have hs0 : W0.heap[w.heap.size]? = some (.cells #[.int .i64 0] 3 (0, 0)) := by
    rw [← hW0, Below.heap_alloc _ _ _ (by simp)]; exact heap_alloc_new w _
  rw [hW0] at A1 ⊢
  refine wpIn_rangeFunc_ownH rfl h1 (gf := 32) (lb := #[.pointer (some ⟨w.heap.size + 1, 0, none⟩)]) rfl trivial (enters_of Try.func32 (by kernel_rfl) rfl)
    (HI.out W0 (w.heap.size + 1) W0.heap.size A1.out hbx (Nat.le_refl _)) Kc.trans (fun W l o o' _ h hc _ => kc_put _ W l o o' h hc) (Below.refl _ _) (fun _ => rfl)
    (fun pre W => W.heap[w.heap.size]? = some (.cells #[.int .i64 pre.length] 3 (0, 0)) ∧ Below w.heap.size w W)
    (fun _ _ _ => False)
    (OwnFrom.and (fun s A B row hs hg hr => cells_kept hs hg hr) (ownFrom_below (Nat.le_refl _) (by omega)))
    (fun _ _ _ _ _ hs _ _ => hs)
    ⟨hs0, A1.out.below⟩
    (fun x a' W => a' = { tmps := #[.pointer p, undef, .int .i64 0, .pointer (some ⟨w.heap.size, 0, none⟩), .pointer p, .func (.func 32) #[] #[.pointer (some ⟨w.heap.size + 1, 0, none⟩)], .int .i64 x.1, .int .i64 x.2, undef, undef, undef], defers := [] })
    (fun x a' s A B row hs hg hr => hs)
    ?assign ?body ?done ?stop
  case assign =>
    rintro l pre x W K ⟨hi1, hi2⟩ hK
    have HK := hid hK
    clear hK
    gi_wp2
    exact HK.out _ _ ((KeepsOthers.refl _).from _) (Kc.refl _ _) ⟨hi1, hi2⟩ (by simp)
  case body =>
    rintro l pre x a' W hlw ⟨rr, hrr⟩ ⟨hi1, hi2⟩ rfl hpre
    have hb : pre.length ≤ 16 := Nat.le_trans (Nat.le_of_lt hpre) (tkp_length T 16)
    obtain ⟨s, hs⟩ : ∃ s : Nat, pre.length = s := ⟨_, rfl⟩
    have HI1 := hid hi1
    rw [hs] at hb HI1
    have u1 := cell_one HI1.out
    have f1 := free_one HI1.out
    have HI2 := hid hi2
    have SN := hid (show (pre ++ [x]).length = s + 1 by simp [hs])
    clear hi1 hi2 hs hrr
    gi_wp2
    refine ⟨(KeepsOthers.setCell _ _ _).from _, Kc.of_kp (Kp.setCell _ ⟨w.heap.size, 0, none⟩ _) (by simp; omega), ?_, ?_⟩
    · rw [SN.out]; exact set_one HI1.out
    · exact HI2.out.setCell (p := ⟨w.heap.size, 0, none⟩) (Nat.le_refl _) _
  case done =>
    rintro D ys W hD rfl ⟨hi1, hi2⟩ hK
    have u1 := cell_one hi1
    have HK := hid hK
    have HI2 := hid hi2
    clear hK hi2 hi1
    gi_wp2
    refine ⟨by simp, .inl ⟨_, _, rfl, run_takeDeferred HK.out, ?_⟩⟩
    refine ⟨_, results_tmp rfl _ _ _, rfl, ?_⟩
    have hk := Kp.of_below HI2.out
    exact ⟨hk.os, hk.tape, hk.output, by have := hk.size; simp [World.putObj]; exact this, fun k hk' _ => (World.putObj_heap_other (by omega)).trans (hk.block k hk' (by simp))⟩
  case stop =>
    rintro D cc pre W _ _ hx _
    exact hx.elim
theorem len_ok (w : World) (tb : Nat) (n : Int) (T : Pl) (h : Tt w tb n T) (hg : Gd T) (h1 : 1 ≤ n) : Calls Try.prog 19 #[.pointer (some ⟨tb, 0, none⟩)] w fun e w' => e = .returned (.int .i64 (tkp T 16).length) ∧ Kp w w' [] := len_its w _ T (its_table h h1 hg)
end Go.Proofs.Ytaofpijcjohnhaa
