/- wire.Signed writes the form of the folded number; the chapter rows of known hold. -/
import Derived.Test.YtnnjfhgdimcieaaTakes
import Derived.Test.YtnnjfhgdimcieaaNo
namespace Go.Proofs.Ytnnjfhgdimcieaa
open Go.RowKit

/-- Bytes as a string. -/
theorem conv_bs {w : World} {v : Value} {l : List Int} (h : Bs w v l) : (convert 23 9 v).run Try.prog w = .ok (.string (strOfNums l)) w := by
  obtain ⟨ao, cap, rfl, hl, hn, hc⟩ := h
  by_cases hl0 : l = []
  · subst hl0
    cases ao with
    | none => exact run_convert_bytes_nil w 23 5 Try.underlying23 Try.underlying5 _ _ 9 Try.underlying9
    | some a =>
      rw [run_convert_bytes_string w 23 9 5 _ _ _ Try.underlying23 Try.underlying5 Try.underlying9, run_bytesToString w a _ cap [] (by simp [loadCells, loadCellsFrom])]
      rfl
  · obtain ⟨b, off, rfl, hcell⟩ := hc hl0
    exact run_convert_bytes_arg w 23 5 Try.underlying23 Try.underlying5 b off l.length cap l rfl hcell 9 Try.underlying9

theorem sn_toList (l : List Int) : (strOfNums l).toList = l.map fun n => UInt8.ofNat n.toNat := by rw [ByteArray.toList_eq, strOfNums_data]

theorem bs_lit (w : World) (l : List Int) (cs : Array Value) (h : cs = (ub l).toArray) (hm : l.length ≤ maxLen) : Bs (w.alloc (.cells cs 5)) (.slice (some ⟨w.heap.size, 0, none⟩) l.length l.length) l := by
  subst h
  have := World.ownsRow_lit (base := 0) (e := 5) (size := 1) w (ub l).toArray l.length (Nat.zero_le _) hm (by simp [ub])
  exact Bs.of_owns (base := 0) (by simpa using this)

theorem Rd.keep_nil {w w' : World} {rb : Nat} {v : Value} (h : Rd w rb v []) (hg : w.grownBy w' none) : Rd w' rb v [] := by
  refine ⟨(hg.block rb (lt_of_block h.1) (by simp)).trans h.1, ?_, h.2.2⟩
  obtain ⟨ao, cap, rfl, a, b, c⟩ := h.2.1
  exact ⟨ao, cap, rfl, a, b, fun h => absurd rfl h⟩

theorem grown_past {w w1 w2 : World} {rb : Nat} (h : w.grownBy w1 none) (h' : w1.grownBy w2 (some rb)) (hb : w.heap.size ≤ rb) : w.grownBy w2 none :=
  ⟨h'.os.trans h.os, h'.tape.trans h.tape, h'.output.trans h.output, Nat.le_trans h.size h'.size, fun k hk hr => (h'.block k (Nat.lt_of_lt_of_le hk h.size) (by simp; omega)).trans (h.block k hk hr)⟩

theorem not_i64 (n : Int) (h0 : -9223372036854775808 ≤ n) (h1 : n ≤ 9223372036854775807) : bits .xor .i64 (-1) n = -n - 1 := by
  show IntKind.i64.wrap ((BitVec.ofInt 64 (-1) ^^^ BitVec.ofInt 64 n).toNat : Int) = _
  have h1 : BitVec.ofInt 64 (-1) = BitVec.allOnes 64 := by decide
  rw [h1, BitVec.allOnes_xor, BitVec.toNat_not, BitVec.toNat_ofInt]
  simp [IntKind.wrap, IntKind.bits, IntKind.signed]
  omega
theorem fold_neg (n : Int) (h0 : -9223372036854775808 ≤ n) (h : n < 0) : IntKind.u64.wrap (IntKind.u64.wrap (IntKind.u64.wrap (bits BinOp.xor IntKind.i64 (-1) n) * 2) + 1) = -2 * n - 1 := by
  rw [not_i64 n h0 (by omega)]
  rw [IntWalk.u64_in (-n - 1) ⟨by omega, by omega⟩, IntWalk.u64_in ((-n - 1) * 2) ⟨by omega, by omega⟩, IntWalk.u64_in ((-n - 1) * 2 + 1) ⟨by omega, by omega⟩]
  omega

/-- A signed number as one without a sign. -/
def fold (n : Int) : Nat := if n < 0 then (-2 * n - 1).toNat else (2 * n).toNat

set_option maxRecDepth 100000 in
theorem signed_any (n : Int) (w : World) (h0 : -9223372036854775808 ≤ n) (h1 : n ≤ 9223372036854775807) :
    Calls Try.prog 13 #[.int .i64 n] w fun e w' => ∃ v, e = .returned v ∧ w'.ownsRow w.heap.size 5 1 v (num (fold n)).length (ub (num (fold n))) ∧ w.grownBy w' none := by
  obtain ⟨k, hk⟩ : ∃ k, k = fold n := ⟨_, rfl⟩
  rw [← hk]
  have hk' : k < 18446744073709551616 := by rw [hk]; unfold fold; split <;> omega
  by_cases hn : n < 0
  · have hke : (k : Int) = -2 * n - 1 := by rw [hk]; unfold fold; rw [if_pos hn]; omega
    have HK := hid hke
    have HK' := hid hk'
    clear hk hk' hke
    go_enter Try.func13, Try.ntmps13
    go_wp2_with fail
    rw [fold_neg n h0 hn, ← HK.out]
    refine (number_any k w HK'.out).mono ?_
    rintro e w1 ⟨v, rfl, hown, hg⟩
    have HO := hid hown
    have HG := hid hg
    clear hown hg
    go_wp2
    go_ret
    exact ⟨_, rfl, HO.out, HG.out⟩
  · have hke : (k : Int) = n * 2 := by rw [hk]; unfold fold; rw [if_neg hn]; omega
    have HK := hid hke
    have HK' := hid hk'
    clear hk hk' hke
    go_enter Try.func13, Try.ntmps13
    go_wp2_with fail
    rw [← HK.out]
    refine (number_any k w HK'.out).mono ?_
    rintro e w1 ⟨v, rfl, hown, hg⟩
    have HO := hid hown
    have HG := hid hg
    clear hown hg
    go_wp2
    go_ret
    exact ⟨_, rfl, HO.out, HG.out⟩

set_option maxRecDepth 100000 in
set_option maxHeartbeats 1000000 in
theorem known_any (w : World) : Calls Try.prog 18 #[] w fun e w' => e = .returned (.bool true) ∧ w.grownBy w' none := by
  go_enter Try.func18, Try.ntmps18
  go_wp2_with fail
  refine (open_any _ _ [128, 1, 2, 97, 98] (bs_lit w [128, 1, 2, 97, 98] _ rfl (by unfold maxLen; simp)) (by simp)).mono ?_
  rintro e w1 ⟨rb, v1, rfl, hr1, hb1, -, hg1⟩
  have HR1 := hid hr1
  have HG1 := hid hg1
  clear hr1 hg1
  go_wp2_with fail
  refine (rNumber_yes _ rb _ _ 128 [2, 97, 98] HR1.out (by unfold Byt; decide) (by simp) (by decide)).mono ?_
  rintro e w2 ⟨rfl, hg2, v2, hr2, -⟩
  have HR2 := hid hr2
  have HG2 := hid hg2
  clear hr2 hg2
  go_wp2_with fail
  refine (rBytes_ok _ rb _ [2, 97, 98] 2 [97, 98] [] HR2.out (by unfold Byt; decide) (by simp) (by decide) (by rfl)).mono ?_
  rintro e w3 ⟨v3, rfl, hown3, hg3, v4, hr3, -⟩
  have HR3 := hid hr3
  have HG3 := hid hg3
  have HO3 := hid hown3
  clear hr3 hg3 hown3
  go_wp2_with fail
  refine (open_any _ _ [128, 0] (bs_lit w3 [128, 0] _ rfl (by unfold maxLen; simp)) (by simp)).mono ?_
  rintro e w4 ⟨rb2, v5, rfl, hr4, hb4, -, hg4⟩
  have HR4 := hid hr4
  have HG4 := hid hg4
  clear hr4 hg4
  go_wp2_with fail
  refine (rNumber_no _ rb2 _ _ HR4.out (by unfold Byt; decide) (by simp) (by decide)).mono ?_
  rintro e w5 ⟨rfl, hg5, -⟩
  have hb4' : w3.heap.size ≤ rb2 := by simp at hb4; omega
  have hw45 := hid (grown_past (grownBy_trans (World.grownBy_alloc w3 _ none) HG4.out) hg5 hb4')
  have hR5 := HR3.out.keep_nil hw45.out
  have k0 := cell_two0 hR5.1
  have k1 := cell_two1 hR5.1
  have hcv := conv_bs ((Bs.of_owns HO3.out).keep fun k hk => hw45.out.block k (HO3.out.lt k hk).2 (by simp))
  obtain ⟨ao4, cap4, hv4⟩ := hR5.shape
  rw [hv4] at k0
  simp only [List.length_nil] at k0
  clear hg5 hv4 hR5
  have hs1 : (strOfNums [97, 98]).toList = [97, 98] := by rw [sn_toList]; rfl
  go_wp2_with (first | (go_at_call 23; go_in) | (go_at_call 21; go_in) | (go_at_call 24; go_in) | (go_at_call 45; go_in))
  refine (signed_any (-1) w5 (by decide) (by decide)).mono ?_
  rintro e w6 ⟨v6, rfl, hown6, hg6⟩
  have HO6 := hid hown6
  have HG6 := hid hg6
  have hcv6 := conv_bs (Bs.of_owns hown6)
  have hs6 : (strOfNums (num (fold (-1)))).toList = [1] := by rw [sn_toList]; rfl
  clear hown6 hg6 hcv k0 k1
  go_wp2_with fail
  refine (number_any 300 w6 (by decide)).mono ?_
  rintro e w7 ⟨v7, rfl, hown7, hg7⟩
  have HO7 := hid hown7
  have HG7 := hid hg7
  have hcv7 := conv_bs (Bs.of_owns hown7)
  have hs7 : (strOfNums (num 300)).toList = [172, 2] := by rw [sn_toList]; rfl
  clear hown7 hg7 hcv6
  go_wp2
  go_ret
  refine ⟨rfl, grownBy_trans (grownBy_trans (grownBy_trans ?_ hw45.out) HG6.out) HG7.out⟩
  have hbw : w.heap.size ≤ rb := by simp at hb1; omega
  exact grown_past (grown_past (grownBy_trans (World.grownBy_alloc w _ none) HG1.out) HG2.out hbw) HG3.out hbw
end Go.Proofs.Ytnnjfhgdimcieaa
