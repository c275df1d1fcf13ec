/- do: a step that reads some bytes; what was read is written over, and nothing else turns. -/
import Derived.Test.YtihlejphjdelfaaDo
namespace Go.Proofs.Ytihlejphjdelfaa
open Go.RowKit
set_option linter.unusedVariables false
set_option linter.unusedSectionVars false

section
variable (w : World) (rb mb rr mr n : Nat) (f : Nat → Int) (c : Int) (h : Two w rb mb rr mr n f c) (hg : Good n) (hc0 : 0 ≤ c) (hc1 : c < 1000000)
include h hg hc0 hc1

set_option maxRecDepth 100000 in
set_option maxHeartbeats 1000000 in
theorem do_read_no (a m x : Int) (ao : Option Addr) (ln cp : Nat) (ha : a ≤ 9223372036854775807) (hb : hasB n a m = false) :
    Calls Try.prog 13 #[.pointer (some ⟨rb, 0, none⟩), .pointer (some ⟨rr, 0, none⟩), .agg #[.int .i64 3, .int .i64 a, .int .i64 m, .int .u32 x, .slice ao ln cp]] w fun e w' => Went w w' rb mb rr mr n c e := by
  have H := hid h
  have HN := hid (show n ≤ 65536 by have := hg.2.1; omega)
  have HB := hid hb
  clear h hb
  go_enter Try.func13, Try.ntmps13
  go_wp2_with fail
  have H1 := hid (H.out.keep (Kp.alloc w (.cells #[.int .i64 3, .int .i64 a, .int .i64 m, .int .u32 x, .slice ao ln cp] 38) []))
  refine (read_no _ rb mb n f c a m H1.out.1 HN.out ha HB.out).mono ?_
  rintro e w1 ⟨rfl, hK1⟩
  have HA1 := hid (H1.out.keep hK1)
  have HK1 := hid ((Kp.alloc w (.cells #[.int .i64 3, .int .i64 a, .int .i64 m, .int .u32 x, .slice ao ln cp] 38) []).trans hK1)
  have qs := ((Sx.made w 3 a m x (.slice ao ln cp)).keep hK1 (by simp)).cells
  clear hK1
  go_wp2_with fail
  refine (rread_no w1 rr mr n f c a m HA1.out.2.1 HN.out ha HB.out).mono ?_
  rintro e w2 ⟨rfl, rfl⟩
  have hcv := conv_nil
  clear qs
  go_wp2
  refine wp_loop_rounds 1 ?_
  rw [rounds_succ]
  go_wp2
  go_ret3
  exact ⟨rb, mb, f, c, rfl, HA1.out, by omega, by omega, .inl ⟨rfl, rfl⟩, HK1.out.nil⟩

set_option maxRecDepth 100000 in
set_option maxHeartbeats 1000000 in
theorem do_read_ok (o m : Nat) (x : Int) (ao : Option Addr) (ln cp : Nat) (hfit : o + m ≤ n) :
    Calls Try.prog 13 #[.pointer (some ⟨rb, 0, none⟩), .pointer (some ⟨rr, 0, none⟩), .agg #[.int .i64 3, .int .i64 o, .int .i64 m, .int .u32 x, .slice ao ln cp]] w fun e w' => Went w w' rb mb rr mr n c e := by
  have H := hid h
  have HN := hid (show n ≤ 65536 by have := hg.2.1; omega)
  have hmI : (m : Int) ≤ 65536 := by have := HN.out; omega
  clear h
  go_enter Try.func13, Try.ntmps13
  go_wp2_with fail
  have H1 := hid (H.out.keep (Kp.alloc w (.cells #[.int .i64 3, .int .i64 o, .int .i64 m, .int .u32 x, .slice ao ln cp] 38) []))
  have hlA := H1.out.1.lt
  have hlR := H1.out.2.1.lt
  refine (read_ok _ rb mb n o m f c H1.out.1 HN.out hfit).mono ?_
  rintro e w1 ⟨v1, rfl, hown1, hK1⟩
  obtain ⟨ao1, cp1, rfl⟩ := owns_shape hown1
  have HA1 := hid (H1.out.keep hK1)
  have HO1 := hid hown1
  have HK1 := hid ((Kp.alloc w (.cells #[.int .i64 3, .int .i64 o, .int .i64 m, .int .u32 x, .slice ao ln cp] 38) []).trans hK1)
  have qs := ((Sx.made w 3 o m x (.slice ao ln cp)).keep hK1 (by simp)).cells
  have HL := hid (And.intro hlA hlR)
  clear hK1 hown1 hlA hlR
  go_wp2_with fail
  refine (rread_ok w1 rr mr n o m f c HA1.out.2.1 HN.out hfit).mono ?_
  rintro e w2 ⟨v2, rfl, hown2, hK2⟩
  obtain ⟨ao2, cp2, rfl⟩ := owns_shape hown2
  obtain ⟨base, hbase⟩ : ∃ base, base = (w.alloc (.cells #[.int .i64 3, .int .i64 o, .int .i64 m, .int .u32 x, .slice ao ln cp] 38)).heap.size := ⟨_, rfl⟩
  have HO2 : Hid (w2.ownsRow base 5 1 (.slice ao1 m cp1) m (ub (part f o m))) := by
    have h0 := HO1.out
    rw [← hbase] at h0
    refine ⟨h0.1, ?_⟩
    rcases h0.2 with hh | ⟨g, cap, cur, hv, hb', hg', rest⟩
    · exact .inl hh
    · exact .inr ⟨g, cap, cur, hv, hb', (hK2.block g (lt_of_block hg') (by simp)).trans hg', rest⟩
  have HA2 := hid (HA1.out.keep hK2)
  have HK2 := hid (HK1.out.trans hK2)
  have hcv1 := conv_bs (Bs.of_owns (w := w2) (l := part f o m) (v := .slice ao1 m cp1) (base := base) (by rw [part_length]; exact HO2.out))
  have hcv2 := conv_bs (Bs.of_owns (w := w2) (l := part f o m) (v := .slice ao2 m cp2) (base := w1.heap.size) (by rw [part_length]; exact hown2))
  obtain ⟨O, hO⟩ : ∃ O, O = (Value.slice ao1 m cp1).ownBlock.toList := ⟨_, rfl⟩
  have HO := hid hO
  have HBase := hid hbase
  clear hown2 hK2 qs hO hbase
  go_wp2
  go_loopw [18] (fun i wr => ∃ k : Nat, k ≤ m ∧ i = .int .i64 k ∧ Hid (∃ ys, wr.ownsRow base 5 1 (.slice ao1 m cp1) m ys) ∧ Hid (Kp w2 wr O))
    (fun i _ => m - (intOf i).toNat)
  case atStart => exact ⟨0, Nat.zero_le _, rfl, ⟨_, HO2.out⟩, Kp.refl _ _⟩
  case round =>
    obtain ⟨k, hk, rfl, hown, hgk⟩ := hrel
    by_cases hlt : k < m
    · obtain ⟨ys, hys⟩ := hown.out
      have hlt' : (k : Int) < (m : Int) := by omega
      rcases hys.2 with ⟨hv, hn0⟩ | ⟨g, cap', cur, hv, hbg, hgg, hnc, hcm, hcs, htake⟩
      · omega
      · simp only [Value.slice.injEq, true_and] at hv
        obtain ⟨rfl, rfl⟩ := hv
        have hcl := hys.cellAt k (by omega)
        have hyl : k < ys.length := by have := hys.1; omega
        rw [List.getElem?_eq_getElem hyl] at hcl
        have hfr := hys.frozenAt k
        have hst := hys.stored k (.int .u8 102)
        have HS1 := hid hst.1
        clear hst hys hgg htake hcs hcm hown hcv1 hcv2
        go_wp2
        go_roundw
        case rel => exact ⟨k + 1, by omega, by go_num, ⟨_, HS1.out⟩, hgk.out.trans ((Kp.setCell _ ⟨g, k, none⟩ _).mono (by rw [HO.out]; simp [Value.ownBlock]))⟩
        case measure => simp [intOf]; omega
    · have hlt' : ¬ (k : Int) < (m : Int) := by omega
      have HX := hid (show Kp w2 wr O from hgk.out)
      have HOb := hid (show ∀ j ∈ O, base ≤ j by
        intro j hj
        rw [HO.out] at hj
        simp only [Option.mem_toList] at hj
        exact (HO2.out.lt j hj).1)
      clear hcv1 hcv2
      go_wp2
      go_ret3
      have hb0 := HOb.out
      have hb1 := HBase.out
      have hl := HL.out
      have hs : (w.alloc (.cells #[.int .i64 3, .int .i64 o, .int .i64 m, .int .u32 x, .slice ao ln cp] 38)).heap.size = w.heap.size + 1 := by simp
      have hnot : ∀ j, j < base → j ∉ O := fun j hj hm => by have := hb0 j hm; omega
      refine ⟨rb, mb, f, c, rfl, ⟨HA2.out.1.keep HX.out (hnot _ (by omega)) (hnot _ (by omega)), HA2.out.2.1.keep HX.out (hnot _ (by omega)) (hnot _ (by omega)), H.out.2.2⟩, by omega, by omega, .inl ⟨rfl, rfl⟩, ?_⟩
      exact (HK2.out.nil).past HX.out (fun j hj hlt => by have := hb0 j hj; omega)
end
end Go.Proofs.Ytihlejphjdelfaa
