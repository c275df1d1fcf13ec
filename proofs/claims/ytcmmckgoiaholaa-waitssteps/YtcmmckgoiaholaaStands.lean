/- stands: does the program's list tell what the document's does? -/
import Derived.Test.YtcmmckgoiaholaaDo
import Derived.Test.YtcmmckgoiaholaaMarks
import Derived.Test.YtcmmckgoiaholaaRound
import Derived.Test.YtcmmckgoiaholaaRsame
import Derived.Deep.RegionHeldLaw
import Derived.Shelf.RegionOpen
namespace Go.Proofs.Ytcmmckgoiaholaa
open Go.RowKit Go.Shelf Go.Lib Go.Sort Go.Maps
set_option linter.unusedVariables false
attribute [local go_sem] Oper.semAt_some

/-- The law's boxes (when to leave, the answer, what is wanted), both lists. -/
structure Bx (w W : World) (wb rb a a7 : Nat) (R : List Nat) (L X : List Dl) (N : Nat) (leave : Int) (ao : Option Addr) (cp : Nat) : Prop where
  b5 : W.heap[a]? = some (.cells #[.int .i64 leave] 3 (0, 0))
  b6 : W.heap[a + 1]? = some (.cells #[.bool false] 4 (0, 0))
  b7 : W.heap[a7]? = some (.cells #[.slice ao N cp] 26 (0, 0))
  wr : Wr W wb R L
  rf : Rf W rb L
  ps : Dr W w.heap.size (.slice ao N cp) X
  kp : Kp w W []
section
variable {w W W' : World} {wb rb a a7 N : Nat} {R : List Nat} {L X : List Dl} {leave : Int} {ao : Option Addr} {cp : Nat}
theorem Bx.keep (h : Bx w W wb rb a a7 R L X N leave ao cp) (hk : Kp W W' []) : Bx w W' wb rb a a7 R L X N leave ao cp :=
  ⟨(hk.block a (lt_of_block h.b5) (by simp)).trans h.b5, (hk.block (a + 1) (lt_of_block h.b6) (by simp)).trans h.b6, (hk.block a7 (lt_of_block h.b7) (by simp)).trans h.b7, h.wr.same hk, h.rf.keep hk, h.ps.keep hk, h.kp.trans hk⟩
end
theorem neq_bool (B : Bool) (W : World) : (binOp .neq 4 (.bool B) (.bool B)).run Try.prog W = .ok (.bool false) W := by cases B <;> kernel_rfl
theorem below_drew {n : Nat} {A B : World} (h : Below n A B) : Below n A B.drew := ⟨h.os, h.tape, h.output, h.size, h.block⟩
theorem fn_not_nil2 (b : Nat) (W : World) : (binOp .eql 63 (itv b) .nilFunc).run Try.prog W = .ok (.bool false) W := by kernel_rfl
set_option maxRecDepth 100000 in
set_option maxHeartbeats 8000000 in
theorem stands_any (w : World) (wb rb : Nat) (R : List Nat) (L : List Dl) (leave : Int) (h : Wr w wb R L) (h' : Rf w rb L) :
    Calls Try.prog 9 #[.pointer (some ⟨wb, 0, none⟩), .pointer (some ⟨rb, 0, none⟩), .int .i64 leave] w fun e w' => e = .returned (.bool true) ∧ Kp w w' [] := by
  have HOK := hid h.ok
  have HS := hid (fun W x (hI : It W x L) => it_seqs 5 (by decide) x L W hI)
  have k0 := (Kp.alloc w (.cells #[.int .i64 leave] 3) []).trans (Kp.alloc _ (.cells #[.bool false] 4) [])
  obtain ⟨W0, hW0⟩ : ∃ W0, (w.alloc (.cells #[.int .i64 leave] 3)).alloc (.cells #[.bool false] 4) = W0 := ⟨_, rfl⟩
  have b5 : W0.heap[w.heap.size]? = some (.cells #[.int .i64 leave] 3 (0, 0)) := by rw [← hW0, Below.heap_alloc _ _ _ (by simp)]; exact heap_alloc_new w _
  have b6 : W0.heap[w.heap.size + 1]? = some (.cells #[.bool false] 4 (0, 0)) := by
    rw [← hW0]
    have := heap_alloc_new (w.alloc (.cells #[.int .i64 leave] 3)) (.cells #[.bool false] 4)
    simpa using this
  rw [hW0] at k0
  have ca := rorder_any W0 rb L (h'.keep k0) HOK.out
  have hlen : (ordL L).length ≤ 16 := by rw [ord_len HOK.out]; exact HOK.out.len
  have HXL := hid (ord_len HOK.out)
  obtain ⟨X, hX⟩ : ∃ X, ordL L = X := ⟨_, rfl⟩
  rw [hX] at ca hlen HS HXL
  have HX := hid hX
  obtain ⟨N, hN⟩ : ∃ N, X.length = N := ⟨_, rfl⟩
  rw [hN] at hlen HXL
  have HN := hid hN
  have B0 := hid (And.intro b5 (And.intro b6 (And.intro h (And.intro h' k0))))
  clear b5 b6 h h' hX k0 hN
  refine (callsIn_wide (n := 6)).1 ?_
  refine callsIn_of_wp_marks Try.func9 rfl trivial ?_ rfl
  simp only [Try.ntmps9, List.size_toArray, List.length_cons, List.length_nil, Nat.reduceAdd, Nat.reduceSub, Array.replicate_succ, Array.replicate_zero, List.push_toArray, List.append_toArray, List.nil_append, List.cons_append]
  refine wpIn_wide.2 ?_
  go_wp2_with fail
  try rw [hW0]
  refine ca.mono ?_
  rintro e W1 ⟨V, rfl, hd, k1⟩
  obtain ⟨ao, cp, hv⟩ := hd.slice
  rw [HN.out] at hv
  subst hv
  have k2 := Kp.alloc W1 (.cells #[.slice ao N cp] 26) []
  have hs0 := B0.out.2.2.2.2.size
  have hs1 := k1.size
  have BX := hid (show Bx w (W1.alloc (.cells #[.slice ao N cp] 26)) wb rb w.heap.size W1.heap.size R L X N leave ao cp from by
    obtain ⟨b5, b6, h, h', k0⟩ := B0.out
    have kk := k1.trans k2
    exact ⟨(kk.block _ (lt_of_block b5) (by simp)).trans b5, (kk.block _ (lt_of_block b6) (by simp)).trans b6, heap_alloc_new W1 _, h.same (k0.trans kk), h'.keep (k0.trans kk), (hd.keep k2).low hs0, k0.trans kk⟩)
  have HA := hid (show w.heap.size + 1 < W1.heap.size from by have := lt_of_block B0.out.2.1; omega)
  obtain ⟨a, ha⟩ : ∃ a, w.heap.size = a := ⟨_, rfl⟩
  obtain ⟨a7, ha7⟩ : ∃ a7, W1.heap.size = a7 := ⟨_, rfl⟩
  obtain ⟨W2, hW2⟩ : ∃ W2, W1.alloc (.cells #[.slice ao N cp] 26) = W2 := ⟨_, rfl⟩
  have HAA := hid (And.intro ha ha7)
  rw [ha, ha7, hW2] at BX
  rw [ha, ha7] at HA
  have cf := first_any W2 _ L BX.out.wr.vw
  obtain ⟨E, hE⟩ : ∃ E, fstT L = E := ⟨_, rfl⟩
  obtain ⟨B, hB⟩ : ∃ B, fstB L = B := ⟨_, rfl⟩
  have HEB := hid (And.intro hE hB)
  rw [hE, hB] at cf
  clear ca hd k1 k2 hs0 hs1 B0 hW0 hE hB
  go_wp2_with fail
  try rw [hW2]
  refine cf.mono ?_
  rintro e W3 ⟨rfl, k3⟩
  have B3 := hid (BX.out.keep k3)
  have cr := rfirst_any W3 rb L B3.out.rf HOK.out
  rw [HEB.out.1, HEB.out.2] at cr
  clear k3 cf BX hW2
  go_wp2_with fail
  refine cr.mono ?_
  rintro e W4 ⟨rfl, k4⟩
  have B4 := hid (B3.out.keep k4)
  clear k4 cr B3 ha ha7
  have c7 := cell_one B4.out.b7
  have hne : (E != E) = false := by simp
  have hnn : ((N : Int) != (N : Int)) = false := by simp
  have hbb := neq_bool B
  have CK := hid (show ∀ W, Kp W4 W [] → W.cell? ⟨a7, 0, none⟩ = some (.slice ao N cp) from fun W hk => hk.cell c7 (by simp))
  have C18 := hid (show ∀ W, Kp W4 W [] → Calls Try.prog 18 #[.pointer (some ⟨wb, 0, none⟩)] W fun e w' => e = .returned (.int .i64 N) ∧ Kp W w' [] from fun W hk => by
    have := len_any W _ L (B4.out.wr.same hk).vw
    rw [← HXL.out] at this
    exact this.mono fun _ _ ⟨p, q⟩ => ⟨p, by rw [q]; exact Kp.refl _ _⟩)
  have C32 := hid (show ∀ W, Kp W4 W [] → Calls Try.prog 32 #[.pointer (some ⟨wb, 0, none⟩)] W fun e w' => ∃ v, e = .returned v ∧ Ns w' W.heap.size v (X.map (·.1)) ∧ Kp W w' [] from fun W hk => by
    have := list_any W _ L (B4.out.wr.same hk).vw
    rw [HX.out] at this
    exact this)
  have C33 := hid (show ∀ W, Kp W4 W [] → Calls Try.prog 33 #[.pointer (some ⟨rb, 0, none⟩)] W fun e w' => ∃ v, e = .returned v ∧ Ns w' W.heap.size v (X.map (·.1)) ∧ Kp W w' [] from fun W hk => by
    have := rlist_any W rb L (B4.out.rf.keep hk) HOK.out
    rw [HX.out] at this
    exact this)
  have HLX := hid (show (X.map (·.1)).length ≤ 100000 from by rw [List.length_map, HN.out]; omega)
  have C26 := hid (show ∀ (W : World) (b2 b3 : Nat) (v2 v3 : Value), Ns W b2 v2 (X.map (·.1)) → Ns W b3 v3 (X.map (·.1)) → Calls Try.prog 26 #[v2, v3] W fun e w' => e = .returned (.bool true) ∧ Kp W w' [] from fun W b2 b3 v2 v3 h2 h3 => by
    have := ints_any W b2 b3 v2 v3 _ _ h2 h3 HLX.out
    rw [show decide (X.map (·.1) = X.map (·.1)) = true from by simp] at this
    exact this)
  clear c7
  go_wp2_with fail
  refine wp_only ?_
  go_region_held_law (fun W => W.cell? ⟨a7, 0, none⟩ = some (.slice ao N cp))
    (first | exact CK.out _ (Kp.drew _ _) | exact CK.out _ z1.out | exact CK.out _ z2.out | exact CK.out _ z3.out | exact CK.out _ z4.out)
    (first
      | (go_at_call 26; have _hh := z3; refine (C26.out _ _ _ v2 v3 N2.out N3.out).mono ?_; rintro e y4 ⟨rfl, hk4⟩; have z4 := hid (z3.out.trans hk4); clear hk4)
      | (go_at_call 33; have _hh := z2; refine (C33.out _ z2.out).mono ?_; rintro e y3 ⟨v3, rfl, hn3, hk3⟩; have z3 := hid (z2.out.trans hk3); have N3 := hid hn3; have N2 := hid (N2.out.keep hk3); clear hn3 hk3)
      | (go_at_call 32; have _hh := z1; refine (C32.out _ z1.out).mono ?_; rintro e y2 ⟨v2, rfl, hn2, hk2⟩; have z2 := hid (z1.out.trans hk2); have N2 := hid hn2; clear hn2 hk2)
      | (go_at_call 18; refine (C18.out _ (Kp.drew _ _)).mono ?_; rintro e y1 ⟨rfl, hk1⟩; have z1 := hid ((Kp.drew W4 []).trans hk1); clear hk1))
  have B5 := hid (B4.out.keep z4.out)
  clear z1 z2 z3 z4 N2 N3 CK C18 C32 C33 B4 hnn hne HEB C26
  go_wp2_with fail
  go_loopw [12] (fun v W => ∃ j : Nat, j ≤ 18 ∧ v = .int .i64 ((j : Int) - 1) ∧ Hid (Bx w W wb rb a a7 R L X N leave ao cp)) (fun v _ => (17 - intOf v).toNat)
  case atStart => exact ⟨0, by decide, rfl, B5⟩
  case round =>
    obtain ⟨j, hj2, rfl, hB2⟩ := hrel
    clear B5 hbb
    by_cases hlt2 : j < 18
    · have hltI : ((j : Int) - 1) ≤ 16 := by omega
      obtain ⟨tv, htv⟩ : ∃ tv, (j : Int) - 1 = tv := ⟨_, rfl⟩
      obtain ⟨pv, hpv⟩ : ∃ pv, getP L tv = pv := ⟨_, rfl⟩
      obtain ⟨pb, hpb⟩ : ∃ pb, hasP L tv = pb := ⟨_, rfl⟩
      have hi64 : i64 tv := by constructor <;> omega
      have cq := prio_any wr _ L tv hB2.out.wr.vw hi64
      have cr := rprio_any wr rb L tv hB2.out.rf HOK.out
      have ch := has_any wr _ L tv hB2.out.wr.vw hi64
      rw [hpv, hpb] at cq cr
      rw [hpb] at ch
      rw [htv] at hltI ⊢
      have HTV := hid htv
      have e1 : (pv != pv) = false := by simp
      have hbb := neq_bool pb
      have hwr : IntKind.i64.wrap (tv + 1) = tv + 1 := IntWalk.i64_in _ ⟨by omega, by omega⟩
      clear hpv hpb htv hi64
      go_wp2_with fail
      refine cq.mono ?_
      rintro e y1 ⟨rfl, rfl⟩
      go_wp2_with fail
      refine cr.mono ?_
      rintro e y2 ⟨rfl, rfl⟩
      go_wp2_with fail
      refine ch.mono ?_
      rintro e y3 ⟨rfl, rfl⟩
      go_wp2
      go_roundw
      case rel => exact ⟨j + 1, by omega, by have := HTV.out; simp; omega, hB2⟩
      case measure => simp [intOf]; have := HTV.out; omega
    · have hj18 : j = 18 := by omega
      subst hj18
      simp only [show (((18 : Nat) : Int) - 1) = 17 from rfl]
      have hnn := fn_not_nil2
      go_wp2_with fail
      refine (all_any wr _).mono ?_
      rintro e y1 ⟨rfl, hy1⟩
      rw [hy1]
      clear hy1
      go_wp2_with fail
      obtain ⟨ab, hab⟩ : ∃ ab, wr.heap.size = ab := ⟨_, rfl⟩
      have k5 := hid (show Kp wr ((wr.alloc (.cells #[.pointer (some ⟨wb, 0, none⟩)] 23)).alloc (.cells #[.int .i64 0] 3)) [] from (Kp.alloc _ _ _).trans (Kp.alloc _ _ _))
      have it5 := hid ((Below.heap_alloc _ (.cells #[.int .i64 0] 3) _ (by simp)).trans (heap_alloc_new wr (.cells #[.pointer (some ⟨wb, 0, none⟩)] 23)))
      have tu5 := hid (show ((wr.alloc (.cells #[.pointer (some ⟨wb, 0, none⟩)] 23)).alloc (.cells #[.int .i64 0] 3)).heap[wr.heap.size + 1]? = some (.cells #[.int .i64 0] 3 (0, 0)) from by
        have := heap_alloc_new (wr.alloc (.cells #[.pointer (some ⟨wb, 0, none⟩)] 23)) (.cells #[.int .i64 0] 3)
        simpa using this)
      obtain ⟨W5, hW5⟩ : ∃ W5, (wr.alloc (.cells #[.pointer (some ⟨wb, 0, none⟩)] 23)).alloc (.cells #[.int .i64 0] 3) = W5 := ⟨_, rfl⟩
      rw [hW5] at k5 it5 tu5
      rw [hab] at it5 tu5
      simp only [hW5, hab]
      have HAB := hid hab
      have a7b : a7 < ab := by rw [← hab]; exact lt_of_block hB2.out.b7
      have a6b : a + 1 < ab := by rw [← hab]; exact lt_of_block hB2.out.b6
      clear hW5 hab hnn hlt2
      refine (wpIn_wide (n := 6)).1 ?_
      refine wpIn_loop (fun a1 W => ∃ (t tq : Nat) (Ds : List Nat) (x19 x91 x92 x93 x94 x95 x118 x119 x120 x121 x122 x123 x124 x125 x126 x127 x128 x129 x130 x131 x132 x133 x134 x135 x136 x137 x138 x139 x140 x141 : Value), t ≤ 2 ∧ Ds.length = t ∧ ab < tq ∧ a1 = { tmps := #[.pointer (some ⟨wb, 0, none⟩), .pointer (some ⟨rb, 0, none⟩), .int .i64 leave, undef, undef, .pointer (some ⟨a, 0, none⟩), .pointer (some ⟨a + 1, 0, none⟩), .pointer (some ⟨a7, 0, none⟩), .int .i64 E, .bool B, .int .i64 E, .bool B, .int .i64 17, u13, u14, u15, u16, itv ab, .pointer (some ⟨tq, 0, none⟩), x19, undef, .pointer (some ⟨rb, 0, none⟩), .slice ao N cp, .tuple #[.int .i64 E, .bool B], .pointer (some ⟨wb, 0, none⟩), .tuple #[.int .i64 E, .bool B], .int .i64 E, .bool B, .tuple #[.int .i64 E, .bool B], .pointer (some ⟨rb, 0, none⟩), .tuple #[.int .i64 E, .bool B], .int .i64 E, .bool B, .pointer (some ⟨wb, 0, none⟩), .int .i64 (N : Nat), .slice ao N cp, .int .i64 (N : Nat), .bool false, .bool false, .int .i64 E, .int .i64 E, .bool false, .bool false, .bool false, .bool B, .bool B, .bool false, .bool false, .bool false, .pointer (some ⟨wb, 0, none⟩), v2, .pointer (some ⟨rb, 0, none⟩), v3, .bool true, .bool false, .bool false, .int .i64 17, .bool false, u58, u59, u60, u61, u62, u63, u64, u65, u66, u67, u68, u69, u70, u71, u72, u73, u74, u75, u76, u77, u78, u79, u80, u81, u82, u83, u84, u85, u86, .pointer (some ⟨wb, 0, none⟩), itv ab, itv ab, .bool false, x91, x92, x93, x94, x95, undef, undef, undef, undef, undef, undef, undef, undef, undef, undef, undef, undef, undef, undef, undef, undef, undef, undef, undef, undef, undef, undef, x118, x119, x120, x121, x122, x123, x124, x125, x126, x127, x128, x129, x130, x131, x132, x133, x134, x135, x136, x137, x138, x139, x140, x141], defers := marks Ds } ∧ Live ab W Ds ∧ Kp wr W [] ∧ W.heap[ab]? = some (.cells #[.pointer (some ⟨wb, 0, none⟩)] 23 (0, 0)) ∧ W.heap[tq]? = some (.cells #[.int .i64 t] 3 (0, 0)))
        (fun a1 _ => 2 - a1.defers.length) ⟨0, ab + 1, [], _, _, _, _, _, _, _, _, _, _, _, _, _, _, _, _, _, _, _, _, _, _, _, _, _, _, _, _, _, _, by decide, rfl, by omega, rfl, ⟨by simp, by simp, by simp⟩, k5.out, it5.out, tu5.out⟩ ?_
      rintro a1 W ⟨t, tq, Ds, x19, x91, x92, x93, x94, x95, x118, x119, x120, x121, x122, x123, x124, x125, x126, x127, x128, x129, x130, x131, x132, x133, x134, x135, x136, x137, x138, x139, x140, x141, ht, hDs, hbt, rfl, hLive, hKp, hIt, hTu⟩
      have c17 := cell_one hTu
      have f17 := free_one hTu
      have HLV := hid hLive
      have HKP := hid hKp
      have HIT := hid hIt
      have HTU := hid hTu
      have HDS := hid hDs
      have HABW := hid (show ab < W.heap.size from lt_of_block hIt)
      clear hLive hKp hIt hTu hDs
      by_cases ht2 : t = 2
      · subst ht2
        have BB := hB2.out.keep HKP.out
        have c6 := cell_one BB.b6
        have f6 := free_one BB.b6
        have B6 := hid BB.b6
        clear BB
        gi_wp2
        go_wp2
        refine leaves_marks Ds _ (HLV.out.set B6.out (.bool true)) ?_
        have KZ := kp_shutR (rows := [a + 1]) Ds _ (HLV.out.set B6.out (.bool true)) (w := wr) (by have := HAB.out; omega) (HKP.out.past' (Kp.setCell W ⟨a + 1, 0, none⟩ (.bool true)))
        have KW : Kp w (shut (W.setCell ⟨a + 1, 0, none⟩ (.bool true)) Ds) [] := hB2.out.kp.past KZ (by intro k hk hl; have := HAA.out; simp at hk; omega)
        have hcell := cell_one (shut_cells Ds _ (HLV.out.set B6.out (.bool true)) (set_one (x := .bool true) B6.out))
        exact ⟨.bool true, by simp [results, Try.results9, go_sem, hcell], rfl, KW⟩
      · have ht1 : (t : Int) < 2 := by omega
        gi_wp2
        obtain ⟨nb, hnb⟩ : ∃ nb, W.heap.size = nb := ⟨_, rfl⟩
        have N1 := hid (heap_alloc_new W (.cells #[.int .i64 0] 3))
        have K1 := hid (HKP.out.trans (Kp.alloc W (.cells #[.int .i64 0] 3) []))
        have I1 := hid ((Below.heap_alloc W (.cells #[.int .i64 0] 3) _ (lt_of_block HIT.out)).trans HIT.out)
        have KW1 := hid (Kp.alloc W (.cells #[.int .i64 0] 3) [])
        obtain ⟨W6, hW6⟩ : ∃ W6, W.alloc (.cells #[.int .i64 0] 3) = W6 := ⟨_, rfl⟩
        have hs1 : W6.heap.size = nb + 1 := by rw [← hW6, ← hnb]; simp
        rw [hnb] at N1
        rw [hW6] at N1 K1 I1 KW1
        simp only [hnb, hW6]
        have HNB := hid hnb
        have tnb : tq < nb := by rw [← hnb]; exact lt_of_block HTU.out
        have DL := hid (show ∀ D ∈ Ds, D < nb from fun D hm => by rw [← hnb]; exact lt_of_block (HLV.out.1 D hm))
        have SQ := HS.out W6 ab ⟨_, I1.out, (hB2.out.wr.same K1.out).vw⟩
        have HS1 := hid hs1
        clear hnb hW6 c17 f17 hs1
        refine range_seqs (K := Kc W6.heap.size) (show 1 ≤ 6 by decide) (gf := 48) (lb := #[.pointer (some ⟨ab, 0, none⟩)]) rfl (enters_of Try.func48 (by kernel_rfl) rfl)
          SQ Kc.trans (kc_put _) (kc_alloc _) (Below.refl _ _) (fun _ => rfl)
          (fun pre V => V.heap[nb]? = some (.cells #[.int .i64 (pre.length : Nat)] 3 (0, 0)) ∧ Below W.heap.size W V)
          (fun cc _ V => cc = .exit 4 ∧ t = 0 ∧ V.heap[nb]? = some (.cells #[.int .i64 leave] 3 (0, 0)) ∧ Below W.heap.size W V)
          (OwnFrom.and (fun s A B row hs hg hr => cells_kept hs hg hr) (ownFrom_below (Nat.le_refl _) (by have := HNB.out; have := HS1.out; omega)))
          (fun cc s A B row hs hg hr => ⟨hs.1, hs.2.1, cells_kept hs.2.2.1 hg hr, (ownFrom_below (β := Unit) (w₀ := W) (Nat.le_refl _) (show W.heap.size ≤ W6.heap.size by have := HNB.out; have := HS1.out; omega)) () A B row hs.2.2.2 hg hr⟩)
          ⟨N1.out, KW1.out.below⟩
          (fun d => .cells #[.int .i64 d.1, .int .i64 d.2] 66)
          (fun d b => { tmps := #[.pointer (some ⟨wb, 0, none⟩), .pointer (some ⟨rb, 0, none⟩), .int .i64 leave, undef, undef, .pointer (some ⟨a, 0, none⟩), .pointer (some ⟨a + 1, 0, none⟩), .pointer (some ⟨a7, 0, none⟩), .int .i64 E, .bool B, .int .i64 E, .bool B, .int .i64 17, u13, u14, u15, u16, itv ab, .pointer (some ⟨tq, 0, none⟩), .pointer (some ⟨nb, 0, none⟩), .pointer (some ⟨b, 0, none⟩), .pointer (some ⟨rb, 0, none⟩), .slice ao N cp, .tuple #[.int .i64 E, .bool B], .pointer (some ⟨wb, 0, none⟩), .tuple #[.int .i64 E, .bool B], .int .i64 E, .bool B, .tuple #[.int .i64 E, .bool B], .pointer (some ⟨rb, 0, none⟩), .tuple #[.int .i64 E, .bool B], .int .i64 E, .bool B, .pointer (some ⟨wb, 0, none⟩), .int .i64 (N : Nat), .slice ao N cp, .int .i64 (N : Nat), .bool false, .bool false, .int .i64 E, .int .i64 E, .bool false, .bool false, .bool false, .bool B, .bool B, .bool false, .bool false, .bool false, .pointer (some ⟨wb, 0, none⟩), v2, .pointer (some ⟨rb, 0, none⟩), v3, .bool true, .bool false, .bool false, .int .i64 17, .bool false, u58, u59, u60, u61, u62, u63, u64, u65, u66, u67, u68, u69, u70, u71, u72, u73, u74, u75, u76, u77, u78, u79, u80, u81, u82, u83, u84, u85, u86, .pointer (some ⟨wb, 0, none⟩), itv ab, itv ab, .bool false, .int .i64 (t : Nat), .bool true, x93, x94, itv ab, dv d, undef, undef, undef, undef, undef, undef, undef, undef, undef, undef, undef, undef, undef, undef, undef, undef, undef, undef, undef, undef, undef, x118, x119, x120, x121, x122, x123, x124, x125, x126, x127, x128, x129, x130, x131, x132, x133, x134, x135, x136, x137, x138, x139, x140, x141], defers := [] })
          ?assign ?body ?done ?stop
        case assign =>
          intro l d V K _ hK
          have HK := hid hK
          clear hK
          gi_wp2
          exact HK.out
        case body =>
          rintro l pre d b V hpre hbb ⟨hi1, hi2⟩ hob
          have hltX : pre.length < X.length := by
            obtain ⟨r, hr⟩ := hpre
            have := congrArg List.length hr
            simp at this
            omega
          have hdd : X[pre.length]! = d := by
            obtain ⟨r, hr⟩ := hpre
            rw [getElem!_pos X pre.length hltX]
            simp [← hr]
          have hltI : ¬ (N : Int) ≤ (pre.length : Int) := by have := HN.out; omega
          have hltJ : (pre.length : Int) < (N : Int) := by have := HN.out; omega
          have hltN : pre.length < N := by have := HN.out; omega
          have hp16 : pre.length ≤ 16 := by have := HN.out; omega
          have kV := HKP.out.trans (Kp.of_below hi2)
          have BB := hB2.out.keep kV
          obtain ⟨g, hao, u5, u6, -, -⟩ := BB.ps.at (x1 := d.1) (x2 := d.2) hltX (by rw [hdd])
          subst hao
          have u0 := cell_one hi1
          have u1 := cell_one BB.b7
          have u2 := cell_two0 hob
          have u3 := cell_two1 hob
          have HB := hid BB
          have H1 := hid hi1
          have H2 := hid hi2
          have TQV := hid ((hi2.block tq (lt_of_block HTU.out)).trans HTU.out)
          have hnq : ∀ W, (binOp .neq 66 (.agg #[.int .i64 d.1, .int .i64 d.2]) (.agg #[.int .i64 d.1, .int .i64 d.2])).run Try.prog W = .ok (.bool false) W := fun W => by rw [neq66]; simp
          have hgd := fun (w : World) (p q : Operand) (xs ys : Array Value) => run_eqGuard_agg (P := Try.prog) w .neq 66 p q xs ys (by kernel_rfl)
          have hmx : Try.prog.follows .mixedOrders = true := by kernel_rfl
          have D0 := hid (show (fun w2 : World => w2.cell? ⟨nb, 0, none⟩ = some (.int .i64 (pre.length : Nat)) ∧ w2.cell? ⟨a7, 0, none⟩ = some (.slice (some ⟨g, 0, none⟩) N cp) ∧ w2.cell? ⟨b, 0, none⟩ = some (.int .i64 d.1) ∧ w2.cell? ⟨b, 1, none⟩ = some (.int .i64 d.2) ∧ w2.cell? ⟨g, pre.length * 2, none⟩ = some (.int .i64 d.1) ∧ w2.cell? ⟨g, pre.length * 2 + 1, none⟩ = some (.int .i64 d.2)) V.drew from ⟨u0, u1, u2, u3, u5, u6⟩)
          clear hi1 hi2 hpre kV BB hdd hob
          gi_wp2_with fail
          refine Code.wpIn_mono (Q := fun e a' w' => e = .normal ∧ a' = { tmps := #[.pointer (some ⟨wb, 0, none⟩), .pointer (some ⟨rb, 0, none⟩), .int .i64 leave, undef, undef, .pointer (some ⟨a, 0, none⟩), .pointer (some ⟨a + 1, 0, none⟩), .pointer (some ⟨a7, 0, none⟩), .int .i64 E, .bool B, .int .i64 E, .bool B, .int .i64 17, u13, u14, u15, u16, itv ab, .pointer (some ⟨tq, 0, none⟩), .pointer (some ⟨nb, 0, none⟩), .pointer (some ⟨b, 0, none⟩), .pointer (some ⟨rb, 0, none⟩), .slice (some ⟨g, 0, none⟩) N cp, .tuple #[.int .i64 E, .bool B], .pointer (some ⟨wb, 0, none⟩), .tuple #[.int .i64 E, .bool B], .int .i64 E, .bool B, .tuple #[.int .i64 E, .bool B], .pointer (some ⟨rb, 0, none⟩), .tuple #[.int .i64 E, .bool B], .int .i64 E, .bool B, .pointer (some ⟨wb, 0, none⟩), .int .i64 (N : Nat), .slice (some ⟨g, 0, none⟩) N cp, .int .i64 (N : Nat), .bool false, .bool false, .int .i64 E, .int .i64 E, .bool false, .bool false, .bool false, .bool B, .bool B, .bool false, .bool false, .bool false, .pointer (some ⟨wb, 0, none⟩), v2, .pointer (some ⟨rb, 0, none⟩), v3, .bool true, .bool false, .bool false, .int .i64 17, .bool false, u58, u59, u60, u61, u62, u63, u64, u65, u66, u67, u68, u69, u70, u71, u72, u73, u74, u75, u76, u77, u78, u79, u80, u81, u82, u83, u84, u85, u86, .pointer (some ⟨wb, 0, none⟩), itv ab, itv ab, .bool false, .int .i64 (t : Nat), .bool true, x93, x94, itv ab, dv d, .int .i64 (pre.length : Nat), .slice (some ⟨g, 0, none⟩) N cp, .int .i64 (N : Nat), .bool false, .bool false, .agg #[.int .i64 d.1, .int .i64 d.2], .slice (some ⟨g, 0, none⟩) N cp, .int .i64 (pre.length : Nat), .pointer (some ⟨g, pre.length * 2, none⟩), .agg #[.int .i64 d.1, .int .i64 d.2], .bool false, .bool false, undef, undef, undef, undef, undef, undef, undef, undef, undef, x118, x119, x120, x121, x122, x123, x124, x125, x126, x127, x128, x129, x130, x131, x132, x133, x134, x135, x136, x137, x138, x139, x140, x141], defers := [] } ∧ w' = V.drew) ?_ ?_
          rotate_left
          · refine region_round (S := (fun w2 : World => w2.cell? ⟨nb, 0, none⟩ = some (.int .i64 (pre.length : Nat)) ∧ w2.cell? ⟨a7, 0, none⟩ = some (.slice (some ⟨g, 0, none⟩) N cp) ∧ w2.cell? ⟨b, 0, none⟩ = some (.int .i64 d.1) ∧ w2.cell? ⟨b, 1, none⟩ = some (.int .i64 d.2) ∧ w2.cell? ⟨g, pre.length * 2, none⟩ = some (.int .i64 d.1) ∧ w2.cell? ⟨g, pre.length * 2 + 1, none⟩ = some (.int .i64 d.2))) l _ hmx (noDefer_spec (by kernel_rfl)) (fun ⟨_, _, h⟩ => by cases h.1) ?_
            have hHeld := D0.out
            refine wpAnyH_take (i := 0) (v := .int .i64 (pre.length : Nat)) rfl (by kernel_rfl) (by kernel_rfl) (by kernel_rfl) (fun _ _ _ h => by cases h.1) (Or.inl ⟨by kernel_rfl, by intro w2 hSw; obtain ⟨s1, s2, s3, s4, s5, s6⟩ := hSw; go_simp⟩) hHeld ?_
            refine wpAnyH_take (i := 1) (v := .slice (some ⟨g, 0, none⟩) N cp) rfl (by kernel_rfl) (by kernel_rfl) (by kernel_rfl) (fun _ _ _ h => by cases h.1) (Or.inl ⟨by kernel_rfl, by intro w2 hSw; obtain ⟨s1, s2, s3, s4, s5, s6⟩ := hSw; go_simp⟩) hHeld ?_
            refine wpAnyH_take (i := 2) (v := .int .i64 (N : Nat)) rfl (by kernel_rfl) (by kernel_rfl) (by kernel_rfl) (fun _ _ _ h => by cases h.1) (Or.inl ⟨by kernel_rfl, by intro w2 hSw; obtain ⟨s1, s2, s3, s4, s5, s6⟩ := hSw; go_simp⟩) hHeld ?_
            refine wpAnyH_take (i := 3) (v := .bool false) rfl (by kernel_rfl) (by kernel_rfl) (by kernel_rfl) (fun _ _ _ h => by cases h.1) (Or.inl ⟨by kernel_rfl, by intro w2 hSw; obtain ⟨s1, s2, s3, s4, s5, s6⟩ := hSw; go_simp⟩) hHeld ?_
            refine wpAnyH_take (i := 4) (v := .bool false) rfl (by kernel_rfl) (by kernel_rfl) (by kernel_rfl) (fun _ _ _ h => by cases h.1) (Or.inl ⟨by kernel_rfl, by intro w2 hSw; obtain ⟨s1, s2, s3, s4, s5, s6⟩ := hSw; go_simp⟩) hHeld ?_
            refine wpAnyH_take (i := 5) (v := .agg #[.int .i64 d.1, .int .i64 d.2]) rfl (by kernel_rfl) (by kernel_rfl) (by kernel_rfl) (fun _ _ _ h => by cases h.1) (Or.inl ⟨by kernel_rfl, by intro w2 hSw; obtain ⟨s1, s2, s3, s4, s5, s6⟩ := hSw; go_simp⟩) hHeld ?_
            refine wpAnyH_take (i := 6) (v := .slice (some ⟨g, 0, none⟩) N cp) rfl (by kernel_rfl) (by kernel_rfl) (by kernel_rfl) (fun _ _ _ h => by cases h.1) (Or.inl ⟨by kernel_rfl, by intro w2 hSw; obtain ⟨s1, s2, s3, s4, s5, s6⟩ := hSw; go_simp⟩) hHeld ?_
            refine wpAnyH_take (i := 7) (v := .int .i64 (pre.length : Nat)) rfl (by kernel_rfl) (by kernel_rfl) (by kernel_rfl) (fun _ _ _ h => by cases h.1) (Or.inl ⟨by kernel_rfl, by intro w2 hSw; obtain ⟨s1, s2, s3, s4, s5, s6⟩ := hSw; go_simp⟩) hHeld ?_
            refine wpAnyH_take (i := 8) (v := .pointer (some ⟨g, pre.length * 2, none⟩)) rfl (by kernel_rfl) (by kernel_rfl) (by kernel_rfl) (fun _ _ _ h => by cases h.1) (Or.inl ⟨by kernel_rfl, by intro w2 hSw; obtain ⟨s1, s2, s3, s4, s5, s6⟩ := hSw; go_simp⟩) hHeld ?_
            refine wpAnyH_take (i := 9) (v := .agg #[.int .i64 d.1, .int .i64 d.2]) rfl (by kernel_rfl) (by kernel_rfl) (by kernel_rfl) (fun _ _ _ h => by cases h.1) (Or.inl ⟨by kernel_rfl, by intro w2 hSw; obtain ⟨s1, s2, s3, s4, s5, s6⟩ := hSw; go_simp⟩) hHeld ?_
            refine wpAnyH_take (i := 10) (v := .bool false) rfl (by kernel_rfl) (by kernel_rfl) (by kernel_rfl) (fun _ _ _ h => by cases h.1) (Or.inl ⟨by kernel_rfl, by intro w2 hSw; obtain ⟨s1, s2, s3, s4, s5, s6⟩ := hSw; go_simp⟩) hHeld ?_
            refine wpAnyH_take (i := 11) (v := .bool false) rfl (by kernel_rfl) (by kernel_rfl) (by kernel_rfl) (fun _ _ _ h => by cases h.1) (Or.inl ⟨by kernel_rfl, by intro w2 hSw; obtain ⟨s1, s2, s3, s4, s5, s6⟩ := hSw; go_simp⟩) hHeld ?_
            refine wpAnyH_done (by kernel_rfl) ?_ _
            exact ⟨rfl, by kernel_rfl, rfl⟩
          rintro e a' V2 ⟨rfl, rfl, rfl⟩
          have k0 := cell_one H1.out
          have f0 := free_one H1.out
          have nu := hid (set_one (w := V) (x := .int .i64 ((pre.length : Int) + 1)) H1.out)
          have k17 := cell_one ((Below.heap_setCell V ⟨nb, 0, none⟩ (.int .i64 ((pre.length : Int) + 1)) tq (by simp; omega)).trans TQV.out)
          have k5 := cell_one ((Below.heap_setCell V ⟨nb, 0, none⟩ (.int .i64 ((pre.length : Int) + 1)) a (by simp; omega)).trans HB.out.b5)
          have k18 := cell_one nu.out
          have KD := hid (show Kc W6.heap.size V (V.setCell ⟨nb, 0, none⟩ (.int .i64 ((pre.length : Int) + 1))).drew from Kc.of_kp ((Kp.setCell V ⟨nb, 0, none⟩ (.int .i64 ((pre.length : Int) + 1))).trans (Kp.drew _ _)) (fun k hk c f e => by
            simp at hk
            subst hk
            rw [H1.out] at e
            simp at e))
          have KF := hid (show KeepsFrom W6.heap.size V (V.setCell ⟨nb, 0, none⟩ (.int .i64 ((pre.length : Int) + 1))).drew from ⟨by simp, fun k o hk h ho => (Below.heap_setCell V _ _ k (by have := HS1.out; simp; omega)).trans h⟩)
          have BL := hid (show Below W.heap.size W (V.setCell ⟨nb, 0, none⟩ (.int .i64 ((pre.length : Int) + 1))).drew from below_drew (H2.out.setCell (p := ⟨nb, 0, none⟩) (by have := HNB.out; simp; omega) _))
          clear u0 u1 u2 u3 u5 u6 hnq hgd
          by_cases htz : t = 0
          · have tz : ((t : Int) == 0) = true := by rw [htz]; rfl
            have HT := hid htz
            clear htz
            by_cases hle' : (pre.length : Int) + 1 = leave
            · have tl : ((pre.length : Int) + 1 == leave) = true := by simp [hle']
              have HLE := hid hle'
              clear hle'
              gi_wp2
              refine ⟨KF.out, rfl, HT.out, ?_, BL.out⟩
              rw [← HLE.out]
              exact nu.out
            · have tl : ((pre.length : Int) + 1 == leave) = false := by simpa using hle'
              gi_wp2
              refine ⟨KF.out, KD.out, ?_, BL.out⟩
              rw [show (((pre ++ [d]).length : Nat) : Int) = (pre.length : Int) + 1 by simp]
              exact nu.out
          · have tz : ((t : Int) == 0) = false := by simp; omega
            gi_wp2
            refine ⟨KF.out, KD.out, ?_, BL.out⟩
            rw [show (((pre ++ [d]).length : Nat) : Int) = (pre.length : Int) + 1 by simp]
            exact nu.out
        case done =>
          rintro D V hD ⟨hi1, hi2⟩ hK
          rw [HN.out] at hi1
          have kV := HKP.out.trans (Kp.of_below hi2)
          have BB := hB2.out.keep kV
          have c7 := cell_one BB.b7
          have c5 := cell_one BB.b5
          have c17 := cell_one ((hi2.block tq (lt_of_block HTU.out)).trans HTU.out)
          have c18 := cell_one hi1
          have KV := hid kV
          have IV := hid ((hi2.block ab (lt_of_block HIT.out)).trans HIT.out)
          have LV := hid (show Live ab V Ds from ⟨fun E hE => (hi2.block E (lt_of_block (HLV.out.1 E hE))).trans (HLV.out.1 E hE), HLV.out.2⟩)
          have HK := hid hK
          clear kV BB hi1 hi2 hK
          have tn : ((N : Int) != (N : Int)) = false := by simp
          by_cases htz : t = 0
          · have tz : ((t : Int) == 0) = true := by rw [htz]; rfl
            have tz1 : ((t : Int) == 1) = false := by rw [htz]; rfl
            clear htz
            gi_wp2
            refine ⟨⟨t + 1, V.heap.size, D :: Ds, _, _, _, _, _, _, _, _, _, _, _, _, _, _, _, _, _, _, _, _, _, _, _, _, _, _, _, _, _, _, by omega, by simp [HDS.out], by have := lt_of_block IV.out; omega, rfl, (LV.out.alloc _).more ((Below.heap_alloc _ _ _ (lt_of_block HK.out)).trans HK.out) (fun E hE => by have := DL.out E hE; have := HNB.out; have := HS1.out; omega) (by have := HNB.out; have := HABW.out; have := HS1.out; omega), KV.out.trans (Kp.alloc _ _ _), (Below.heap_alloc _ _ _ (lt_of_block IV.out)).trans IV.out, ?_⟩, by simp [marks, HDS.out]; omega⟩
            simpa using heap_alloc_new V (.cells #[.int .i64 ((t : Int) + 1)] 3)
          · have tz : ((t : Int) == 0) = false := by rw [beq_eq_false_iff_ne]; omega
            have tz1 : ((t : Int) == 1) = true := by rw [beq_iff_eq]; omega
            clear htz
            gi_wp2
            refine ⟨⟨t + 1, V.heap.size, D :: Ds, _, _, _, _, _, _, _, _, _, _, _, _, _, _, _, _, _, _, _, _, _, _, _, _, _, _, _, _, _, _, by omega, by simp [HDS.out], by have := lt_of_block IV.out; omega, rfl, (LV.out.alloc _).more ((Below.heap_alloc _ _ _ (lt_of_block HK.out)).trans HK.out) (fun E hE => by have := DL.out E hE; have := HNB.out; have := HS1.out; omega) (by have := HNB.out; have := HABW.out; have := HS1.out; omega), KV.out.trans (Kp.alloc _ _ _), (Below.heap_alloc _ _ _ (lt_of_block IV.out)).trans IV.out, ?_⟩, by simp [marks, HDS.out]; omega⟩
            simpa using heap_alloc_new V (.cells #[.int .i64 ((t : Int) + 1)] 3)
        case stop =>
          rintro D cc pre V hD hpre ⟨rfl, htz, hi1, hi2⟩ hK
          have kV := HKP.out.trans (Kp.of_below hi2)
          have BB := hB2.out.keep kV
          have c7 := cell_one BB.b7
          have c5 := cell_one BB.b5
          have c17 := cell_one ((hi2.block tq (lt_of_block HTU.out)).trans HTU.out)
          have c18 := cell_one hi1
          have KV := hid kV
          have IV := hid ((hi2.block ab (lt_of_block HIT.out)).trans HIT.out)
          have LV := hid (show Live ab V Ds from ⟨fun E hE => (hi2.block E (lt_of_block (HLV.out.1 E hE))).trans (HLV.out.1 E hE), HLV.out.2⟩)
          have HK := hid hK
          clear kV BB hi1 hi2 hK
          have tz : ((t : Int) == 0) = true := by rw [htz]; rfl
          have tz1 : ((t : Int) == 1) = false := by rw [htz]; rfl
          have tl : (leave != leave) = false := by simp
          clear htz
          by_cases hll : leave = (N : Int)
          · have tn : (leave != (N : Int)) = false := by simp [hll]
            clear hll
            gi_wp2
            refine ⟨⟨t + 1, V.heap.size, D :: Ds, _, _, _, _, _, _, _, _, _, _, _, _, _, _, _, _, _, _, _, _, _, _, _, _, _, _, _, _, _, _, by omega, by simp [HDS.out], by have := lt_of_block IV.out; omega, rfl, (LV.out.alloc _).more ((Below.heap_alloc _ _ _ (lt_of_block HK.out)).trans HK.out) (fun E hE => by have := DL.out E hE; have := HNB.out; have := HS1.out; omega) (by have := HNB.out; have := HABW.out; have := HS1.out; omega), KV.out.trans (Kp.alloc _ _ _), (Below.heap_alloc _ _ _ (lt_of_block IV.out)).trans IV.out, ?_⟩, by simp [marks, HDS.out]; omega⟩
            simpa using heap_alloc_new V (.cells #[.int .i64 ((t : Int) + 1)] 3)
          · have tn : (leave != (N : Int)) = true := by simp [hll]
            clear hll
            gi_wp2
            refine ⟨⟨t + 1, V.heap.size, D :: Ds, _, _, _, _, _, _, _, _, _, _, _, _, _, _, _, _, _, _, _, _, _, _, _, _, _, _, _, _, _, _, by omega, by simp [HDS.out], by have := lt_of_block IV.out; omega, rfl, (LV.out.alloc _).more ((Below.heap_alloc _ _ _ (lt_of_block HK.out)).trans HK.out) (fun E hE => by have := DL.out E hE; have := HNB.out; have := HS1.out; omega) (by have := HNB.out; have := HABW.out; have := HS1.out; omega), KV.out.trans (Kp.alloc _ _ _), (Below.heap_alloc _ _ _ (lt_of_block IV.out)).trans IV.out, ?_⟩, by simp [marks, HDS.out]; omega⟩
            simpa using heap_alloc_new V (.cells #[.int .i64 ((t : Int) + 1)] 3)
end Go.Proofs.Ytcmmckgoiaholaa
