/- blockOf, Free, Size. -/
import Derived.Test.YtgefmnnkpffpcaaGreatDoorHallocJ
namespace Go.Proofs.YtgefmnnkpffpcaaGreatDoor
open Go.RowKit Go.Maps

set_option maxRecDepth 100000 in
theorem blockOf_no (w : World) (hb rb mb pb n : Nat) (g : Mem) (c : Int) (P : Pcs) (o : Int) (h : Hp w hb rb mb pb n g c P) (h0 : -9223372036854775808 ≤ o) (h1 : o ≤ 9223372036854775807) (hp : hasP P o = false) :
    Calls Tryz.prog 63 #[.pointer (some ⟨hb, 0, none⟩), .int .i64 o] w fun e w' => e = .returned (.tuple #[.agg #[.int .i64 0, .int .i64 0], .int .i64 6]) ∧ Kp w w' [] := by
  have A1 := Kp.alloc w (.cells #[.int .i64 0, .int .i64 0] 87) []
  have H1 := h.same A1
  have q0 := H1.c0cell
  have q1 := H1.c1cell
  have lk := H1.mp.look h0 h1
  rw [hp] at lk
  have K := hid A1
  clear h A1 H1 hp
  go_enter Tryz.func63, Tryz.ntmps63
  go_wp2_with (go_at_call 51; go_in)
  refine bodyPost_ret (v := .tuple #[.agg #[.int .i64 0, .int .i64 0], .int .i64 6]) (by simp [results, Tryz.results63, go_sem]) rfl ⟨rfl, K.out⟩

set_option maxRecDepth 100000 in
theorem blockOf_ok (w : World) (hb rb mb pb n : Nat) (g : Mem) (c : Int) (P : Pcs) (o : Int) (h : Hp w hb rb mb pb n g c P) (h0 : 0 ≤ o) (h1 : o < 4611686018427387904) (hp : hasP P o = true) :
    Calls Tryz.prog 63 #[.pointer (some ⟨hb, 0, none⟩), .int .i64 o] w fun e w' => e = .returned (.tuple #[.agg #[.int .i64 (o - 8), .int .i64 (getP P o)], .int .i64 0]) ∧ Kp w w' [] := by
  have A1 := Kp.alloc w (.cells #[.int .i64 0, .int .i64 0] 87) []
  have H1 := h.same A1
  have q0 := H1.c0cell
  have q1 := H1.c1cell
  have lk := H1.mp.look (k := o) (by omega) (by omega)
  rw [hp] at lk
  obtain ⟨z, hz⟩ : ∃ z, getP P o = z := ⟨_, rfl⟩
  rw [hz] at lk ⊢
  have K := hid (Kp.alloc w (.cells #[.int .i64 (o - 8), .int .i64 z] 87) [])
  clear h A1 H1 hp hz
  go_enter Tryz.func63, Tryz.ntmps63
  go_wp2_with (go_at_call 51; go_in)
  refine bodyPost_ret (v := .tuple #[.agg #[.int .i64 (o - 8), .int .i64 z], .int .i64 0]) (by simp [results, Tryz.results63, go_sem]) rfl ⟨rfl, K.out⟩

set_option maxRecDepth 100000 in
theorem size_no (w : World) (hb rb mb pb n : Nat) (g : Mem) (c : Int) (P : Pcs) (o : Int) (h : Hp w hb rb mb pb n g c P) (h0 : -9223372036854775808 ≤ o) (h1 : o ≤ 9223372036854775807) (hp : hasP P o = false) :
    Calls Tryz.prog 30 #[.pointer (some ⟨hb, 0, none⟩), .int .i64 o] w fun e w' => e = .returned (.tuple #[.int .i64 0, .int .i64 6]) ∧ Kp w w' [] := by
  go_enter Tryz.func30, Tryz.ntmps30
  go_wp2_with fail
  refine (blockOf_no w hb rb mb pb n g c P o h h0 h1 hp).mono ?_
  rintro e w1 ⟨rfl, hK1⟩
  go_wp2
  go_ret2
  exact ⟨rfl, hK1.trans (Kp.alloc _ _ _)⟩
set_option maxRecDepth 100000 in
theorem hsize_ok (w : World) (hb rb mb pb n : Nat) (g : Mem) (c : Int) (P : Pcs) (o z : Int) (h : Hp w hb rb mb pb n g c P) (h0 : 0 ≤ o) (h1 : o < 4611686018427387904) (hp : hasP P o = true) (hz : getP P o = z) (hz0 : 0 ≤ z) (hz1 : z < 4611686018427387904) :
    Calls Tryz.prog 30 #[.pointer (some ⟨hb, 0, none⟩), .int .i64 o] w fun e w' => e = .returned (.tuple #[.int .i64 (z - 8), .int .i64 0]) ∧ Kp w w' [] := by
  have HZ := hid hz
  clear hz
  go_enter Tryz.func30, Tryz.ntmps30
  go_wp2_with fail
  refine (blockOf_ok w hb rb mb pb n g c P o h h0 h1 hp).mono ?_
  rintro e w1 ⟨rfl, hK1⟩
  rw [HZ.out]
  go_wp2
  go_ret2
  exact ⟨rfl, hK1.trans (Kp.alloc _ _ _)⟩

set_option maxRecDepth 100000 in
theorem hfree_no (w : World) (hb rb mb pb n : Nat) (g : Mem) (c : Int) (P : Pcs) (o : Int) (h : Hp w hb rb mb pb n g c P) (h0 : -9223372036854775808 ≤ o) (h1 : o ≤ 9223372036854775807) (hp : hasP P o = false) :
    Calls Tryz.prog 21 #[.pointer (some ⟨hb, 0, none⟩), .int .i64 o] w fun e w' => e = .returned (.int .i64 6) ∧ Kp w w' [] := by
  go_enter Tryz.func21, Tryz.ntmps21
  go_wp2_with fail
  refine (blockOf_no w hb rb mb pb n g c P o h h0 h1 hp).mono ?_
  rintro e w1 ⟨rfl, hK1⟩
  go_wp2
  go_ret
  exact ⟨rfl, hK1.trans (Kp.alloc _ _ _)⟩

set_option maxRecDepth 100000 in
set_option maxHeartbeats 1000000 in
theorem hfree_ok (w : World) (hb rb mb pb n : Nat) (g : Mem) (c : Int) (P : Pcs) (o z : Int) (h : Hp w hb rb mb pb n g c P) (hc : c < 1152921504606830000) (h0 : 8 ≤ o) (hp : hasP P o = true) (hz : getP P o = z) (hz0 : 16 ≤ z) (hz8 : z % 8 = 0) (hon : o - 8 + z ≤ n) :
    Calls Tryz.prog 21 #[.pointer (some ⟨hb, 0, none⟩), .int .i64 o] w fun e w' => e = .returned (.int .i64 0) ∧ Went w w' hb rb mb pb n (freed n g (delP P o) (o - 8) z) (delP P o) c 29 [rb, mb, pb] := by
  have HZ := hid hz
  have hnb := h.nb
  have H := hid h
  have HP := hid hp
  have Z8 := hid hz8
  have HL := hid h.lt
  clear hz h hp hz8
  go_enter Tryz.func21, Tryz.ntmps21
  go_wp2_with fail
  refine (blockOf_ok w hb rb mb pb n g c P o H.out (by omega) (by omega) HP.out).mono ?_
  rintro e w1 ⟨rfl, hK1⟩
  rw [HZ.out]
  have A2 := hid (hK1.trans (Kp.alloc w1 (.cells #[.int .i64 (o - 8), .int .i64 z] 87) []))
  have H2 := hid (H.out.same A2.out)
  have hs1 := hK1.size
  have X2 := hid (heap_alloc_new w1 (.cells #[.int .i64 (o - 8), .int .i64 z] 87))
  have q1 := H2.out.c1cell
  clear hK1
  have NE := hid (show w1.heap.size ∉ [pb] by simp; have := HL.out; omega)
  have DD := hid (dat_del P o)
  go_wp2_with (at_delete; refine wpList_delete_own _ rfl _ _ 65 3 rfl 3 keyed3 Tryz.underlying65 _ pb _ _ rfl H2.out.mp _ _ rfl (keyOf_int_mk Tryz.underlying3 (wf64 (by omega) (by omega))) ?_; intro w3 hown3 hturn3; rw [DD.out] at hown3; have M3 := hid (Mp.of_owns hown3); have KK3 := hid (Kp.turned hturn3); have e1 := KK3.out.cell (cell_two0 X2.out) NE.out; have e2 := KK3.out.cell (cell_two1 X2.out) NE.out; clear hown3 hturn3)
  refine (free_any w3 hb rb mb pb n g c (delP P o) (o - 8) z (H2.out.remap KK3.out M3.out) (by omega) (by omega) (by omega) Z8.out (by omega)).mono ?_
  rintro e w4 ⟨rfl, c4, hc4, hc4', hH4, hK4⟩
  have W4 := hid (show Went w w4 hb rb mb pb n (freed n g (delP P o) (o - 8) z) (delP P o) c 29 [rb, mb, pb] from ⟨c4, by omega, by omega, hH4, (A2.out.nil.trans (KK3.out.mono (by simp))).trans (hK4.mono (by simp))⟩)
  clear hH4 hK4
  go_wp2
  go_ret
  exact ⟨rfl, W4.out⟩
end Go.Proofs.YtgefmnnkpffpcaaGreatDoor

/- The map's keys, sorted. -/
namespace Go.Proofs.YtgefmnnkpffpcaaGreatDoor
open Go.RowKit Go.Maps Go.Sort Go.Shelf

theorem Kp.of_below {w w' : World} (h : Below w.heap.size w w') : Kp w w' [] := ⟨h.os, h.tape, h.output, h.size, fun k hk _ => h.block k hk⟩

theorem keys_any (b : Nat) (W : World) : Calls Tryz.prog 118 #[.map (some b)] W fun e w' => e = .returned (.func (.func 125) #[] #[.pointer (some ⟨W.heap.size, 0, none⟩)]) ∧ w' = W.alloc (.cells #[.map (some b)] 65) :=
  (callsIn_wide (n := 5)).1 (AnyZI.keys_in Tryz.laysKeys Fence.wide 5 trivial rfl (some b) W)

theorem sorts_wide (m : Nat) : AnyZI.SortsIn Tryz.prog Tryz.laysSorted_ren Fence.wide m :=
  ⟨fun blk off cap ss W hH hblk hsz => callsIn_wide.2 (AnyM.slices_Sort_int Tryz.laysSort blk off cap ss W hH hblk hsz),
   fun p cap W => callsIn_wide.2 (AnyM.slices_Sort_int_none Tryz.laysSort p cap W)⟩

set_option maxHeartbeats 1000000 in
theorem sorted_any (b : Nat) (P : Pcs) (w : World) (hm : Mp w b P) (hl : P.length ≤ 65536) :
    Calls Tryz.prog 117 #[.func (.func 125) #[] #[.pointer (some ⟨w.heap.size, 0, none⟩)]] (w.alloc (.cells #[.map (some b)] 65)) fun e w' => ∃ v, e = .returned v ∧
      w'.ownsRow (w.heap.size + 1) 3 1 v P.length (P.map fun p => .int .i64 p.1) ∧ Kp (w.alloc (.cells #[.map (some b)] 65)) w' [] := by
  have hbl := World.ownsMap.lt hm
  have hmax : Maps.size (dat P) ≤ maxLen := by rw [dat_size]; unfold maxLen; omega
  have hbytes : Maps.size (dat P) * 8 ≤ 140737488355328 := by rw [dat_size]; omega
  have hseq : SeqGives Fence.wide 2 Tryz.prog 125 #[.pointer (some ⟨w.heap.size, 0, none⟩)] encZ (fun ss => ss.Perm (intKeys (dat P))) (Maps.size (dat P)) (w.alloc (.cells #[.map (some b)] 65)) :=
    AnyZI.keys_gives (ρ := Tryz.laysKeys_ren) { Tryz.laysKeys with } Fence.wide _ trivial rfl (by omega) w.heap.size b P.length (dat P) _ (by simp) (by simp) (by
      obtain ⟨es, clock, hb, Ft, hs, hD⟩ := hm
      exact ⟨es, clock, (Below.heap_alloc _ _ b hbl).trans hb, Ft, hs, hD⟩)
  have cS := AnyZI.sorted_in Tryz.laysSorted Fence.wide 5 trivial trivial trivial trivial rfl (by omega) (sorts_wide _) (enters_of Tryz.func124 (by kernel_rfl) rfl) 125 #[.pointer (some ⟨w.heap.size, 0, none⟩)] trivial (enters_of Tryz.func125 (by kernel_rfl) rfl) _ _ hmax hbytes _ hseq
  change CallsIn _ _ Tryz.prog 117 _ _ _ at cS
  refine (callsIn_wide.1 cS).mono ?_
  rintro e w' ⟨v, ss, rfl, hS, hrow, -, hb⟩
  have e1 : ss.length = P.length := by rw [hS.length_eq, dat_keys]; simp
  have e2 : ss.mergeSort leI = P.map (·.1) := by rw [mergeSort_of_perm_i hS, dat_keys]; exact hm.rises.sorted
  refine ⟨v, rfl, ?_, Kp.of_below hb⟩
  have hrow' : w'.ownsRow (w.alloc (.cells #[.map (some b)] 65)).heap.size 3 1 v ss.length ((ss.mergeSort leI).map encZ) := hrow
  rw [e1, e2] at hrow'
  simpa [Function.comp_def] using hrow'
end Go.Proofs.YtgefmnnkpffpcaaGreatDoor
