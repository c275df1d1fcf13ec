/- The reference: New, Add, Drop. -/
import Derived.Test.YtaofpijcjohnhaaRef
import Derived.Deep.RegionHeldLaw
import Derived.Deep.RegionHeld
namespace Go.Proofs.Ytaofpijcjohnhaa
open Go.RowKit

theorem Try.infoP : (Try.prog.info? 70).map (fun i => (i.zero, i.size, i.bytes)) = some (some (.agg #[.bool false, .int .i64 0]), 2, 16) := by kernel_rfl
theorem made_pcl (n : Nat) : (madeCells (Value.agg #[.bool false, .int .i64 0]).cells (n * 2)).toList = pcl T0 n 0 := by
  apply List.ext_getElem?
  intro j
  by_cases hj : j < n * 2
  · have hp := pcl_at T0 n 0 (j / 2) (by omega)
    rw [Nat.zero_add] at hp
    have hm : (madeCells (Value.agg #[.bool false, .int .i64 0]).cells (n * 2)).toList[j]? = some (#[Value.bool false, .int .i64 0][j % 2]!) := by
      simp [madeCells, hj, Value.cells]
    rw [hm]
    rcases Nat.mod_two_eq_zero_or_one j with e | e
    · rw [e]
      have h3 := hp.1
      rw [show j / 2 * 2 = j by omega] at h3
      rw [h3]; rfl
    · rw [e]
      have h3 := hp.2
      rw [show j / 2 * 2 + 1 = j by omega] at h3
      rw [h3]; rfl
  · rw [List.getElem?_eq_none (by simp [madeCells]; omega), List.getElem?_eq_none (by rw [pcl_length]; omega)]

set_option maxRecDepth 100000 in
theorem rnew_no (w : World) (n : Int) (h : ¬ (1 ≤ n ∧ n ≤ 16)) : Calls Try.prog 8 #[.int .i64 n] w fun e w' => e = .returned (.pointer none) ∧ w' = w := by
  by_cases h1 : n < 1
  · clear h
    go_enter Try.func8, Try.ntmps8
    go_wp2
    go_ret
    exact ⟨rfl, rfl⟩
  · have h2 : 16 < n := by omega
    clear h
    go_enter Try.func8, Try.ntmps8
    go_wp2
    go_ret
    exact ⟨rfl, rfl⟩
set_option maxRecDepth 100000 in
theorem rnew_ok (w : World) (n : Nat) (h1 : 1 ≤ n) (h2 : n ≤ 16) : Calls Try.prog 8 #[.int .i64 n] w fun e w' => ∃ rb mb, e = .returned (.pointer (some ⟨rb, 0, none⟩)) ∧ Rt w' rb mb n T0 ∧ w.heap.size ≤ rb ∧ w.heap.size ≤ mb ∧ Kp w w' [] := by
  obtain ⟨i0, hi, hz0, hz1, hz2⟩ := info_parts Try.infoP
  have h1' : (1 : Int) ≤ n := by omega
  have h2' : (n : Int) ≤ 16 := by omega
  go_enter Try.func8, Try.ntmps8
  go_wp2_with (refine wpList_make_full _ rfl _ _ 56 rfl w.heap.size 70 i0 (.agg #[.bool false, .int .i64 0]) 2 Try.underlying56 hi hz0 hz1 .i64 .i64 n n n rfl rfl rfl rfl (by rw [hz2]; omega) (by unfold maxLen; omega) (Nat.le_refl _) ?_; intro w1 hown hg)
  go_ret
  rw [made_pcl] at hown
  refine ⟨w1.heap.size, w.heap.size, rfl, ?_, hg.size, Nat.le_refl _, (Kp.grown hg).trans (Kp.alloc _ _ _)⟩
  rcases hown.2 with ⟨hc, -⟩ | ⟨g, cap, cur, hv, hb, hgg, hnc, hcm, hcs, htake⟩
  · simp at hc
  · simp only [Value.slice.injEq, Option.some.injEq, Addr.mk.injEq, and_true, true_and] at hv
    obtain ⟨rfl, rfl⟩ := hv
    refine ⟨heap_alloc_new w1 _, (Below.heap_alloc w1 _ _ (lt_of_block hgg)).trans ?_⟩
    rw [hgg]
    have : cur = (pcl T0 n 0).toArray := by
      rw [List.take_of_length_le (by simp [hcs])] at htake
      rw [← htake]
    rw [this]

set_option maxRecDepth 100000 in
set_option maxHeartbeats 1000000 in
theorem radd_any (w : World) (rb mb n : Nat) (T : Pl) (h : Rt w rb mb n T) (hg : Gd T) (hgs : ∀ i, i < 16 → (T i).2 < 1000000) (h2 : n ≤ 16) : Calls Try.prog 22 #[.pointer (some ⟨rb, 0, none⟩)] w fun e w' =>
    (low T n 0 = n → e = .returned (.tuple #[.int .i64 0, .int .i64 5]) ∧ w' = w) ∧
    (low T n 0 < n → e = .returned (.tuple #[.int .i64 ((low T n 0 : Nat) + 16 * ((T (low T n 0)).2 + 1)), .int .i64 0]) ∧ Rt w' rb mb n (upd T (low T n 0) (true, (T (low T n 0)).2 + 1)) ∧ Kp w w' [mb]) := by
  have HR := hid h
  have HG := hid hg
  have HS := hid hgs
  clear h hg hgs
  go_enter Try.func22, Try.ntmps22
  go_wp2_with fail
  go_loopw [4] (fun vi wr => ∃ i : Nat, i ≤ n ∧ vi = .int .i64 i ∧ wr = w ∧ low T n 0 = low T (n - i) i) (fun vi _ => n - (intOf vi).toNat)
  case atStart => exact ⟨0, Nat.zero_le _, rfl, rfl, rfl⟩
  case round =>
    obtain ⟨i, hi, rfl, rfl, hlow⟩ := hrel
    have c0 := HR.out.cell
    by_cases hlt : i < n
    · have hltI : (i : Int) < n := by omega
      have ct := HR.out.taken i hlt
      have cg := HR.out.gen i hlt
      have hg1 := HG.out i (by omega)
      have hg2 := HS.out i (by omega)
      cases ht : (T i).1 with
      | true =>
        rw [ht] at ct
        have hl := hid (hlow.trans (low_step hlt ht))
        clear hlow ht
        go_wp2
        go_roundw
        case rel => exact ⟨i + 1, by omega, by simp, trivial, hl.out⟩
        case measure => simp [intOf]; omega
      | false =>
        rw [ht] at ct
        have hl := hid (hlow.trans (low_here hlt ht))
        have f0 := HR.out.free (i * 2)
        have f1 := HR.out.free (i * 2 + 1)
        clear hlow ht
        go_wp2
        go_region
        have R1 := (((HR.out.setTaken i hlt true).setGen i hlt ((T i).2 + 1)).keep (Kp.drew _ []) (by simp) (by simp))
        rw [upd_upd, upd_same] at R1
        have K1 := hid (((Kp.setCell wr ⟨mb, i * 2, none⟩ (.bool true)).trans (Kp.setCell _ ⟨mb, i * 2 + 1, none⟩ (.int .i64 ((T i).2 + 1)))).trans (Kp.drew _ _))
        obtain ⟨W, hW⟩ : ∃ W, ((wr.setCell ⟨mb, i * 2, none⟩ (.bool true)).setCell ⟨mb, i * 2 + 1, none⟩ (.int .i64 ((T i).2 + 1))).drew = W := ⟨_, rfl⟩
        rw [hW] at R1 K1 ⊢
        have d0 := R1.cell
        have d1 := R1.gen i hlt
        rw [upd_same] at d1
        have HR1 := hid R1
        clear hW R1 c0 ct cg f0 f1
        go_wp2
        go_ret2
        refine ⟨fun e => ?_, fun _ => ?_⟩
        · exact absurd e (by rw [hl.out]; omega)
        · rw [hl.out]
          exact ⟨rfl, HR1.out, K1.out⟩
    · have hltI : ¬ (i : Int) < n := by omega
      obtain rfl : i = n := by omega
      have hl := hid (show low T i 0 = i by rw [hlow, Nat.sub_self]; rfl)
      clear hlow
      go_wp2
      go_ret2
      refine ⟨fun _ => ⟨rfl, rfl⟩, fun e => ?_⟩
      exact absurd e (by rw [hl.out]; omega)

set_option maxRecDepth 100000 in
theorem rdrop_no (w : World) (rb mb n : Nat) (T : Pl) (x : Int) (h : Rt w rb mb n T) (hg : Gd T) (h2 : n ≤ 16) (hx : atB T n x = false) :
    Calls Try.prog 23 #[.pointer (some ⟨rb, 0, none⟩), .int .i64 x] w fun e w' => e = .returned (.int .i64 6) ∧ w' = w := by
  have ca := rat_any w rb mb n T x h hg h2
  rw [hx] at ca
  clear h hg
  go_enter Try.func23, Try.ntmps23
  go_wp2_with (go_at_call 13; refine ca.mono ?_; rintro e w' ⟨rfl, rfl⟩)
  go_ret
  exact ⟨rfl, rfl⟩
set_option maxRecDepth 100000 in
theorem rdrop_ok (w : World) (rb mb n k : Nat) (T : Pl) (x : Int) (h : Rt w rb mb n T) (hg : Gd T) (h2 : n ≤ 16) (hx : atB T n x = true) (hv : atV T n x = k) (hk : k < n) :
    Calls Try.prog 23 #[.pointer (some ⟨rb, 0, none⟩), .int .i64 x] w fun e w' => e = .returned (.int .i64 0) ∧ Rt w' rb mb n (upd T k (false, (T k).2)) ∧ Kp w w' [mb] := by
  have ca := rat_any w rb mb n T x h hg h2
  rw [hx, hv] at ca
  have c0 := h.cell
  have ct := h.taken k hk
  have f0 := h.free (k * 2)
  have hkI : (k : Int) < n := by omega
  have HR := hid h
  clear h hg
  go_enter Try.func23, Try.ntmps23
  go_wp2_with (go_at_call 13; refine ca.mono ?_; rintro e w' ⟨rfl, rfl⟩)
  go_ret
  exact ⟨rfl, HR.out.setTaken k hk false, Kp.setCell _ ⟨mb, k * 2, none⟩ _⟩
end Go.Proofs.Ytaofpijcjohnhaa
