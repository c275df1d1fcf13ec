/- SignalsQueue's walk. -/
import Derived.BigQuiet
import Derived.Deep.CutRange
import Derived.Deep.DeepCutAuto
import Derived.Deep.RegionHeldLaw
import Derived.Test.YtoenipaccnpihaaQm
import Derived.Test.YtoenipaccnpihaaArgs
import Derived.Test.YtoenipaccnpihaaStepsW
namespace Go.Proofs.Ytoenipaccnpihaa
open Go.RowKit Go.Shelf Go.Sort Go.Maps
open Go.Lib hiding intOf
attribute [local go_sem] Oper.semAt_some

theorem ready_val {ops : Array Oper} {o : Oper} {a : Act} {w w' : World} {K : Act → World → Prop} {Q : Exit → Act → World → Prop} {v : Value} (hw : Region.wanted o (yielded ops a.tmps) = true) (hr : (execOp a.eval o).run Try.prog w = .ok (.value v) w') (hk : K (a.put o.dst v) w') : if Region.wanted o (yielded ops a.tmps) = true then Oper.wp Try.prog o a w K Q else K (a.put o.dst undef) w := by
  rw [if_pos hw]
  unfold Oper.wp
  rw [hr]
  exact hk
theorem ready_skip {ops : Array Oper} {o : Oper} {a : Act} {w w' : World} {K : Act → World → Prop} {Q : Exit → Act → World → Prop} (hw : Region.wanted o (yielded ops a.tmps) = true) (hr : (execOp a.eval o).run Try.prog w = .ok .skip w') (hk : K (a.put o.dst undef) w') : if Region.wanted o (yielded ops a.tmps) = true then Oper.wp Try.prog o a w K Q else K (a.put o.dst undef) w := by
  rw [if_pos hw]
  unfold Oper.wp
  rw [hr]
  exact hk
theorem shr_bit {x m : Nat} (hx : x < 4294967296) (h : x.testBit m = true) : bits .and .u32 ((x : Int) / 2 ^ m) 1 = 1 := by
  have e : (x : Int) / 2 ^ m = ((x / 2 ^ m : Nat) : Int) := by simp
  rw [e, show (1 : Int) = ((1 : Nat) : Int) from rfl, and_bits (Nat.lt_of_le_of_lt (Nat.div_le_self _ _) hx) (by decide), Nat.and_one_is_mod]
  rw [Nat.testBit_eq_decide_div_mod_eq, decide_eq_true_eq] at h
  rw [h]
/-- So many are left to be taken. -/
def Dv (w1 : World) (sb S ba : Nat) (W : World) (k : Nat) : Prop := ∃ L H Z, Qm w1 W sb S L ba (ba + 1) H Z [] ∧ Pd L Z ∧ L.length = k
theorem qm_new {w1 w2 : World} {sb S : Nat} {R : List Nat} (h : Sg w2 sb R 3 S (fun _ => 0) []) (hf : ∀ k ∈ R, w1.heap.size ≤ k) (hk : Kp w1 w2 []) : Qm w1 ((w2.alloc (.cells #[.slice none 0 0, .slice none 0 0, .slice none 0 0, .slice none 0 0, .slice none 0 0, .slice none 0 0, .slice none 0 0, .slice none 0 0, .slice none 0 0, .slice none 0 0, .slice none 0 0, .slice none 0 0, .slice none 0 0, .slice none 0 0, .slice none 0 0, .slice none 0 0, .slice none 0 0, .slice none 0 0, .slice none 0 0, .slice none 0 0, .slice none 0 0, .slice none 0 0, .slice none 0 0, .slice none 0 0, .slice none 0 0, .slice none 0 0, .slice none 0 0, .slice none 0 0, .slice none 0 0, .slice none 0 0, .slice none 0 0, .slice none 0 0] 44)).alloc (.cells #[.slice none 0 0, .slice none 0 0, .slice none 0 0, .slice none 0 0, .slice none 0 0, .slice none 0 0, .slice none 0 0, .slice none 0 0, .slice none 0 0, .slice none 0 0, .slice none 0 0, .slice none 0 0, .slice none 0 0, .slice none 0 0, .slice none 0 0, .slice none 0 0, .slice none 0 0, .slice none 0 0, .slice none 0 0, .slice none 0 0, .slice none 0 0, .slice none 0 0, .slice none 0 0, .slice none 0 0, .slice none 0 0, .slice none 0 0, .slice none 0 0, .slice none 0 0, .slice none 0 0, .slice none 0 0, .slice none 0 0, .slice none 0 0] 44)) sb S [] w2.heap.size (w2.heap.size + 1) (fun _ => .slice none 0 0) (fun _ => []) [] := by
  have k1 := Kp.alloc w2 (.cells #[.slice none 0 0, .slice none 0 0, .slice none 0 0, .slice none 0 0, .slice none 0 0, .slice none 0 0, .slice none 0 0, .slice none 0 0, .slice none 0 0, .slice none 0 0, .slice none 0 0, .slice none 0 0, .slice none 0 0, .slice none 0 0, .slice none 0 0, .slice none 0 0, .slice none 0 0, .slice none 0 0, .slice none 0 0, .slice none 0 0, .slice none 0 0, .slice none 0 0, .slice none 0 0, .slice none 0 0, .slice none 0 0, .slice none 0 0, .slice none 0 0, .slice none 0 0, .slice none 0 0, .slice none 0 0, .slice none 0 0, .slice none 0 0] 44) []
  have k2 := Kp.alloc (w2.alloc (.cells #[.slice none 0 0, .slice none 0 0, .slice none 0 0, .slice none 0 0, .slice none 0 0, .slice none 0 0, .slice none 0 0, .slice none 0 0, .slice none 0 0, .slice none 0 0, .slice none 0 0, .slice none 0 0, .slice none 0 0, .slice none 0 0, .slice none 0 0, .slice none 0 0, .slice none 0 0, .slice none 0 0, .slice none 0 0, .slice none 0 0, .slice none 0 0, .slice none 0 0, .slice none 0 0, .slice none 0 0, .slice none 0 0, .slice none 0 0, .slice none 0 0, .slice none 0 0, .slice none 0 0, .slice none 0 0, .slice none 0 0, .slice none 0 0] 44)) (.cells #[.slice none 0 0, .slice none 0 0, .slice none 0 0, .slice none 0 0, .slice none 0 0, .slice none 0 0, .slice none 0 0, .slice none 0 0, .slice none 0 0, .slice none 0 0, .slice none 0 0, .slice none 0 0, .slice none 0 0, .slice none 0 0, .slice none 0 0, .slice none 0 0, .slice none 0 0, .slice none 0 0, .slice none 0 0, .slice none 0 0, .slice none 0 0, .slice none 0 0, .slice none 0 0, .slice none 0 0, .slice none 0 0, .slice none 0 0, .slice none 0 0, .slice none 0 0, .slice none 0 0, .slice none 0 0, .slice none 0 0, .slice none 0 0] 44) []
  have hz := hk.size
  refine ⟨R, (h.same k1).same k2, hf, hk.trans (k1.trans k2), (k2.block _ (by simp) (by simp)).trans (heap_alloc_new w2 _), alloc_snd w2 _ _, ⟨fun hm => by have := h.lt _ hm; omega, fun hm => by have := h.lt _ hm; omega, by omega, by omega, by omega⟩, fun i _ => Ns.nil _ _, fun i g _ hg => ?_, fun i j g _ _ hg => ?_, by simp⟩
  · simp [Value.ownBlock] at hg
  · simp [Value.ownBlock] at hg
theorem five {w : World} {r : Nat} {a b c d e : Value} {t : TypeId} (h : w.heap[r]? = some (.cells #[a, b, c, d, e] t (0, 0))) : w.cell? ⟨r, 0, none⟩ = some a ∧ w.cell? ⟨r, 2, none⟩ = some c ∧ w.cell? ⟨r, 3, none⟩ = some d ∧ w.cell? ⟨r, 4, none⟩ = some e := ⟨by simp [World.cell?, h], by simp [World.cell?, h], by simp [World.cell?, h], by simp [World.cell?, h]⟩
set_option maxRecDepth 100000 in
set_option maxHeartbeats 20000000 in
theorem queue_walk (w : World) (a : Int) (V : Value) (N : Nat) (F : Nat → Stp) (hV : Scr w V N F) : Calls Try.prog 5 #[.int .i64 a, V] w fun e w' => e = .returned (.bool true) ∧ Kp w w' [] := by
  obtain ⟨so, sc, rfl⟩ := hV.shape
  have HV := hid hV
  clear hV
  go_enter Try.func5, Try.ntmps5
  go_wp2_with fail
  refine (known_any clear_any w).mono ?_
  rintro e w1 ⟨rfl, k1⟩
  have K0 := hid k1
  clear k1
  rcases new_or 3 a with hno | ⟨T, S, hT, rfl, -, hS⟩
  · have HN := hid hno
    clear hno
    go_wp2_with fail
    refine (new_no w1 3 a HN.out).mono ?_
    rintro e w2 ⟨rfl, k1⟩
    have K1 := hid (K0.out.trans k1)
    clear k1
    go_wp2_with fail
    refine (num_any _ _).mono ?_
    rintro e _ ⟨rfl, rfl⟩
    go_wp2
    go_ret
    exact ⟨rfl, K1.out⟩
  · clear hT
    have HS := hid hS
    clear hS
    go_wp2_with fail
    refine (new_yes w1 3 S (by decide) (by decide) HS.out.1 HS.out.2).mono ?_
    rintro e w2 ⟨sb, R1, rfl, hx, hx1, hx2⟩
    have Q0 := hid (qm_new hx hx1 hx2)
    clear hx hx1 hx2
    go_wp2_with fail
    refine (num_any _ _).mono ?_
    rintro e wx ⟨rfl, hw⟩; obtain rfl := hw.symm
    go_wp2_with fail
    obtain ⟨ba, hba⟩ : ∃ ba, w2.heap.size = ba := ⟨_, rfl⟩
    rw [hba] at Q0
    try simp only [hba]
    clear hba
    rename_i KD hKD
    have HKD := hid hKD
    clear hKD
    have HTD : ∀ (i : Nat) (L : El) (H : Nat → Value) (Z : Nat → List Int) (W : World) (c4 c10 c11 c12 c13 c14 c29 c30 c31 c32 c33 c34 c35 c36 c37 c38 c39 c40 c41 c42 c43 c44 c45 c46 c47 c48 c49 c50 c51 c52 c53 c54 c55 c56 c57 c58 c59 c60 c61 c62 c63 c64 c65 c66 c67 c68 c69 c70 c71 c72 c73 c74 c75 c76 c77 c78 c79 c80 c81 c82 c83 c84 c85 c86 c87 c88 c89 c90 c91 c92 c93 c94 c95 c96 c97 c98 c99 c100 c101 c102 c103 c104 c105 c106 c107 c108 c109 c110 c111 c112 c113 c114 c115 c116 c117 c118 c119 c120 c121 c122 c123 c124 c125 c126 c127 c128 c129 c130 c131 c132 c133 c134 c135 c136 c137 c138 c139 c140 c141 c142 c143 c144 c145 c146 c147 c148 : Value), i ≤ 120 → Hid (Qm w1 W sb S L ba (ba + 1) H Z []) → Hid (Pv i L Z) → KD { tmps := #[.int .i64 ↑S, .slice so N sc, undef, undef, c4, .pointer (some ⟨sb, 0, none⟩), .int .i64 0, .pointer (some ⟨ba, 0, none⟩), .pointer (some ⟨ba + 1, 0, none⟩), .int .i64 (i : Nat), c10, c11, c12, c13, c14, undef, undef, undef, undef, .bool true, .bool false, .tuple #[.pointer (some ⟨sb, 0, none⟩), .int .i64 0], .int .i64 ↑S, .tuple #[.pointer (some ⟨sb, 0, none⟩), .int .i64 0], .pointer (some ⟨sb, 0, none⟩), .int .i64 0, .int .i64 0, .int .i64 0, .bool false, c29, c30, c31, c32, c33, c34, c35, c36, c37, c38, c39, c40, c41, c42, c43, c44, c45, c46, c47, c48, c49, c50, c51, c52, c53, c54, c55, c56, c57, c58, c59, c60, c61, c62, c63, c64, c65, c66, c67, c68, c69, c70, c71, c72, c73, c74, c75, c76, c77, c78, c79, c80, c81, c82, c83, c84, c85, c86, c87, c88, c89, c90, c91, c92, c93, c94, c95, c96, c97, c98, c99, c100, c101, c102, c103, c104, c105, c106, c107, c108, c109, c110, c111, c112, c113, c114, c115, c116, c117, c118, c119, c120, c121, c122, c123, c124, c125, c126, c127, c128, c129, c130, c131, c132, c133, c134, c135, c136, c137, c138, c139, c140, c141, c142, c143, c144, c145, c146, c147, c148, undef, undef, undef, undef, undef, undef, undef, undef, undef, undef, undef, undef, undef, undef, undef, undef, undef, undef, undef, undef, undef, undef, undef, undef, undef, undef, undef, undef, undef, undef, undef, undef, undef, undef, undef, undef, undef, undef, undef, undef, undef, undef, undef, undef, undef, undef, undef, undef, undef, undef, undef, undef, undef, undef, undef, undef, undef, undef, undef, undef, undef, undef, undef, undef, undef, undef, undef, undef, undef, undef, undef, undef, undef, undef], defers := [] } W := by
      intro i L H Z W c4 c10 c11 c12 c13 c14 c29 c30 c31 c32 c33 c34 c35 c36 c37 c38 c39 c40 c41 c42 c43 c44 c45 c46 c47 c48 c49 c50 c51 c52 c53 c54 c55 c56 c57 c58 c59 c60 c61 c62 c63 c64 c65 c66 c67 c68 c69 c70 c71 c72 c73 c74 c75 c76 c77 c78 c79 c80 c81 c82 c83 c84 c85 c86 c87 c88 c89 c90 c91 c92 c93 c94 c95 c96 c97 c98 c99 c100 c101 c102 c103 c104 c105 c106 c107 c108 c109 c110 c111 c112 c113 c114 c115 c116 c117 c118 c119 c120 c121 c122 c123 c124 c125 c126 c127 c128 c129 c130 c131 c132 c133 c134 c135 c136 c137 c138 c139 c140 c141 c142 c143 c144 c145 c146 c147 c148 hi hQ hP
      refine HKD.out _ _ ?_
      clear HKD Q0
      have HD0 := hid (show ∃ k, Dv w1 sb S ba W k from ⟨_, L, H, Z, hQ.out, hP.out.drain hQ.out.ok hi, rfl⟩)
      clear hQ hP
      have hm0' : True := trivial
      go_wp2_with fail
      go_loopw [16] (fun _ W' => Hid (∃ k, Dv w1 sb S ba W' k)) (fun _ W' => least (Dv w1 sb S ba W'))
      case atStart => exact HD0
      case round =>
        clear HD0
        obtain ⟨k0, hk0⟩ : ∃ k0, least (Dv w1 sb S ba wr) = k0 := ⟨_, rfl⟩
        have hD := (least_yes hrel.out).1
        rw [hk0] at hD ⊢
        obtain ⟨L, H, Z, hQ, hP, hL⟩ := hD
        have hok := hQ.ok
        have hN : nxN 3 L 1 W32 = low L 1 W32 := nxN_nat (T := 3) (t := 1) W32 (by decide)
        have CN := hQ.call (f := 16) (fun R hs => next_any wr sb R 3 S _ L 1 W32 (by decide) hs)
        unfold nxV nxB nxL at CN
        rw [hN] at CN
        clear hrel hk0
        by_cases hn : low L 1 W32 ≤ 31
        · rw [if_pos hn, if_pos hn, decide_eq_true hn, show (1 : Int).toNat = 1 from rfl] at CN
          obtain ⟨p1, p3, p5⟩ := hP.next hn
          have hq0 := (low_some (L := L) (t := 1) (W := W32) (by omega)).2.2.1
          have hll := rm_length hq0
          have hlz : (Z (32 + low L 1 W32)).length ≤ 1000000 := by simp at p5; omega
          unfold Sv at CN
          obtain ⟨m, hm⟩ : ∃ m, low L 1 W32 = m := ⟨_, rfl⟩
          rw [hm] at CN hn p1 p3 p5 hll hlz
          obtain ⟨L', hL'⟩ : ∃ L', rm L 1 m = L' := ⟨_, rfl⟩
          obtain ⟨v, hv⟩ : ∃ v, hdv L 1 m = v := ⟨_, rfl⟩
          rw [hL'] at CN p3 hll
          rw [hv] at CN p3 p5
          have CN := hid CN
          have HPn := hid p3
          have HLL := hid (show L'.length + 1 = k0 by omega)
          have hm1 : ¬ (m : Int) < 1 := by omega
          have hm31 : ¬ (31 : Int) < m := by omega
          clear p3 hN hok hm hL' hv hQ hP hL hq0 hll
          go_wp2_with fail
          refine CN.out.mono ?_
          rintro e wB ⟨rfl, hq⟩
          have hqz := hq.alloc #[.int .i64 m, .int .i64 v] 47 (by decide)
          obtain ⟨bz, hbz⟩ : ∃ bz, wB.heap.size = bz := ⟨_, rfl⟩
          obtain ⟨WB, hWB⟩ : ∃ WB, wB.alloc (.cells #[.int .i64 m, .int .i64 v] 47) = WB := ⟨_, rfl⟩
          rw [hbz, hWB] at hqz
          have z0 := cell_two0 (hqz.box (.head _))
          have z1 := cell_two1 (hqz.box (.head _))
          have QZ := hid hqz
          clear hq hqz CN
          have HXC := hid (show ∀ z, Kp WB z [] → z.cell? ⟨bz, 0, none⟩ = some (.int .i64 (m : Nat)) ∧ z.cell? ⟨bz, 1, none⟩ = some (.int .i64 v) from fun z hz => ⟨hz.cell z0 (by simp), hz.cell z1 (by simp)⟩)
          have QD := QZ.out.go (Kp.drew WB [])
          obtain ⟨V', w2', hrun, hbx2, hca, hfz, hq2⟩ := QD.pushT (i := m) (by omega) v hlz
          obtain ⟨ao1, cp1, hV1, hct⟩ := hq2.sliceT (i := m) (by omega)
          rw [show updH H (32 + m) V' (32 + m) = V' by simp [updH]] at hV1
          rw [show updZ Z (32 + m) (Z (32 + m) ++ [v]) (32 + m) = Z (32 + m) ++ [v] by simp [updZ]] at hV1 hct
          obtain ⟨ln1, hln1⟩ : ∃ ln1, (Z (32 + m) ++ [v]).length = ln1 := ⟨_, rfl⟩
          rw [hln1] at hV1 hct p5
          subst hV1
          clear hln1
          have h200 : ¬ (200 : Int) < (ln1 : Int) := by omega
          have HCT := hid hct
          obtain ⟨ao0, cp0, hHV, hc0⟩ := QD.sliceT (i := m) (by omega)
          obtain ⟨ln0, hln⟩ : ∃ ln0, (Z (32 + m)).length = ln0 := ⟨_, rfl⟩
          rw [hln] at hHV hc0
          have HC0 := hid hc0
          have HC1 := hid (show (WB.alloc (.cells #[.int .i64 v] 2)).cell? ⟨ba + 1, m, none⟩ = some (.slice ao0 ln0 cp0) from (Kp.alloc _ _ []).cell hc0 (by simp))
          have HC2 := hid (And.intro hca hfz)
          rw [hHV] at hrun
          have HRUN := hid (show (Builtin.append_ #[43, 43] 43 #[.slice ao0 ln0 cp0, .slice (some ⟨WB.heap.size, 0, none⟩) 1 1]).run Try.prog (WB.alloc (.cells #[.int .i64 v] 2)).drew = .ok (.slice ao1 ln1 cp1) w2' from hrun)
          have hbx2 := hbx2 _ (.head _)
          have HX2 := hid (And.intro (cell_two0 hbx2) (cell_two1 hbx2))
          have hbx3 := hq2.box (.head _)
          have HX3 := hid (And.intro (cell_two0 hbx3) (cell_two1 hbx3))
          have HQ2 := hid hq2
          have hn32 : (m : Int) < 32 := by omega
          have hn0 : ¬ (m : Int) < 0 := by omega
          clear hrun hbx2 hca hfz hq2 hHV hc0 hln hbx3 hct hlz p5
          go_upto_region 32 with fail
          try simp only [hbz, hWB]
          clear hbz hWB z0 z1
          refine wp_region_held_drew (S := fun W : World => W.cell? ⟨bz, 0, none⟩ = some (.int .i64 (m : Nat)) ∧ W.cell? ⟨bz, 1, none⟩ = some (.int .i64 v)) (by kernel_rfl) (HXC.out _ (Kp.drew _ _)) (fun hHeld => ?_)
          refine wpAnyH_take (i := 0) (v := .pointer (some ⟨bz, 0, none⟩)) rfl (by kernel_rfl) (by kernel_rfl) (by kernel_rfl) (fun _ _ _ h => h) (Or.inl ⟨by kernel_rfl, fun w _ => by kernel_rfl⟩) hHeld ?_
          refine wpAnyH_take (i := 1) (v := .int .i64 (m : Nat)) rfl (by kernel_rfl) (by kernel_rfl) (by kernel_rfl) (fun _ _ _ h => h) (Or.inl ⟨by kernel_rfl, by intro w hSw; obtain ⟨s0, s1⟩ := hSw; go_simp⟩) hHeld ?_
          refine wpAnyH_take (i := 2) (v := .pointer (some ⟨bz, 0, none⟩)) rfl (by kernel_rfl) (by kernel_rfl) (by kernel_rfl) (fun _ _ _ h => h) (Or.inl ⟨by kernel_rfl, fun w _ => by kernel_rfl⟩) hHeld ?_
          refine wpAnyH_take (i := 3) (v := .int .i64 (m : Nat)) rfl (by kernel_rfl) (by kernel_rfl) (by kernel_rfl) (fun _ _ _ h => h) (Or.inl ⟨by kernel_rfl, by intro w hSw; obtain ⟨s0, s1⟩ := hSw; go_simp⟩) hHeld ?_
          refine wpAnyH_take (i := 4) (v := .pointer (some ⟨ba + 1, m, none⟩)) rfl (by kernel_rfl) (by kernel_rfl) (by kernel_rfl) (fun _ _ _ h => h) (Or.inl ⟨by kernel_rfl, by intro w hSw; go_simp⟩) hHeld ?_
          refine wpAnyH_take (i := 6) (v := .pointer (some ⟨bz, 1, none⟩)) rfl (by kernel_rfl) (by kernel_rfl) (by kernel_rfl) (fun _ _ _ h => h) (Or.inl ⟨by kernel_rfl, fun w _ => by kernel_rfl⟩) hHeld ?_
          refine wpAnyH_take (i := 7) (v := .int .i64 v) rfl (by kernel_rfl) (by kernel_rfl) (by kernel_rfl) (fun _ _ _ h => h) (Or.inl ⟨by kernel_rfl, by intro w hSw; obtain ⟨s0, s1⟩ := hSw; go_simp⟩) hHeld ?_
          refine wpAnyH_ready (rs := [5, 8]) (by kernel_rfl) (by simp) ?_
          refine AllReadyH.cons rfl (fun K hK => ?_) (AllReadyH.cons rfl (fun K hK => ?_) AllReadyH.nil)
          · have hc := HC0.out
            go_simp
            refine hK.out _ _ (HXC.out _ (Kp.drew _ _)) (fun hHeld => ?_)
            refine wpAnyH_ready (rs := [8]) (by kernel_rfl) (by simp) ?_
            refine AllReadyH.cons rfl (fun K hK => ?_) AllReadyH.nil
            go_simp
            refine hK.out _ _ (HXC.out _ ((Kp.alloc _ _ _).trans (Kp.drew _ _))) (fun hHeld => ?_)
            refine wpAnyH_ready (rs := [9]) (by kernel_rfl) (by simp) ?_
            refine AllReadyH.cons rfl (fun K hK => ?_) AllReadyH.nil
            rw [if_pos (by kernel_rfl)]
            refine wp_app _ _ (by rfl) (.slice ao0 ln0 cp0) (.slice (some ⟨WB.heap.size, 0, none⟩) 1 1) (.slice ao1 ln1 cp1) w2' (by kernel_rfl) (by kernel_rfl) HRUN.out ?_
            refine hK.out _ _ (HX2.out) (fun hHeld => ?_)
            refine wpAnyH_take (i := 10) (v := .pointer (some ⟨ba + 1, m, none⟩)) rfl (by kernel_rfl) (by kernel_rfl) (by kernel_rfl) (fun _ _ _ h => h) (Or.inl ⟨by kernel_rfl, by intro w hSw; go_simp⟩) hHeld ?_
            refine wpAnyH_ready (rs := [11]) (by kernel_rfl) (by simp) ?_
            refine AllReadyH.cons rfl (fun K hK => ?_) AllReadyH.nil
            have hc := HC2.out.1
            have hf := HC2.out.2
            go_simp
            refine hK.out _ _ (HX3.out) (fun hHeld => ?_)
            refine wpAnyH_done (by kernel_rfl) ?_ _
            have hz0 := HX3.out.1
            have hz1 := HX3.out.2
            have hct := HCT.out
            go_wp2
            have I3 := hid (show Dv w1 sb S ba _ L'.length from ⟨L', _, _, HQ2.out.sub (by simp), HPn.out, rfl⟩)
            go_roundw
            case rel => exact hid ⟨_, I3.out⟩
            case measure => have := least_le I3.out; have := HLL.out; omega
          · go_simp
            refine hK.out _ _ (HXC.out _ ((Kp.alloc _ _ _).trans (Kp.drew _ _))) (fun hHeld => ?_)
            refine wpAnyH_ready (rs := [5]) (by kernel_rfl) (by simp) ?_
            refine AllReadyH.cons rfl (fun K hK => ?_) AllReadyH.nil
            have hc := HC1.out
            go_simp
            refine hK.out _ _ (HXC.out _ ((Kp.alloc _ _ _).trans (Kp.drew _ _))) (fun hHeld => ?_)
            refine wpAnyH_ready (rs := [9]) (by kernel_rfl) (by simp) ?_
            refine AllReadyH.cons rfl (fun K hK => ?_) AllReadyH.nil
            rw [if_pos (by kernel_rfl)]
            refine wp_app _ _ (by rfl) (.slice ao0 ln0 cp0) (.slice (some ⟨WB.heap.size, 0, none⟩) 1 1) (.slice ao1 ln1 cp1) w2' (by kernel_rfl) (by kernel_rfl) HRUN.out ?_
            refine hK.out _ _ (HX2.out) (fun hHeld => ?_)
            refine wpAnyH_take (i := 10) (v := .pointer (some ⟨ba + 1, m, none⟩)) rfl (by kernel_rfl) (by kernel_rfl) (by kernel_rfl) (fun _ _ _ h => h) (Or.inl ⟨by kernel_rfl, by intro w hSw; go_simp⟩) hHeld ?_
            refine wpAnyH_ready (rs := [11]) (by kernel_rfl) (by simp) ?_
            refine AllReadyH.cons rfl (fun K hK => ?_) AllReadyH.nil
            have hc := HC2.out.1
            have hf := HC2.out.2
            go_simp
            refine hK.out _ _ (HX3.out) (fun hHeld => ?_)
            refine wpAnyH_done (by kernel_rfl) ?_ _
            have hz0 := HX3.out.1
            have hz1 := HX3.out.2
            have hct := HCT.out
            go_wp2
            have I3 := hid (show Dv w1 sb S ba _ L'.length from ⟨L', _, _, HQ2.out.sub (by simp), HPn.out, rfl⟩)
            go_roundw
            case rel => exact hid ⟨_, I3.out⟩
            case measure => have := least_le I3.out; have := HLL.out; omega
        · rw [if_neg hn, if_neg hn, decide_eq_false hn] at CN
          obtain ⟨hLn, hZn⟩ := hP.fin hok hn
          unfold Sv at CN
          have CN := hid CN
          have HZN := hid hZn
          have HP := hid hP
          clear hN hok hZn hQ hP
          go_wp2_with fail
          refine CN.out.mono ?_
          rintro e wB ⟨rfl, hq⟩
          have QZ := hid (hq.go (Kp.alloc wB (.cells #[.int .i64 0, .int .i64 0] 47) []))
          clear hq CN
          rw [hLn] at QZ
          have hzl : ∀ j, 16 ≤ j → j < 32 → (Z j).length ≤ 120 := fun j _ hj => HP.out.len j hj
          have HZL := hid hzl
          clear hzl
          go_upto_region 36 with fail
          go_loopw [17] (fun vk W' => ∃ j : Nat, 16 ≤ j ∧ j ≤ 32 ∧ vk = .int .i64 j ∧ Hid (Qm w1 W' sb S [] ba (ba + 1) H Z [])) (fun vk _ => 32 - (intOf vk).toNat)
          case atStart => exact ⟨16, by omega, by omega, rfl, QZ⟩
          case round =>
            obtain ⟨j, j16, j32, rfl, hQ3⟩ := hrel
            clear QZ
            by_cases hj : j < 32
            · have hjI : (j : Int) < 32 := by omega
              have hj0 : ¬ (j : Int) < 0 := by omega
              obtain ⟨a1, p1, e1, ca⟩ := hQ3.out.sliceA (i := j) hj
              obtain ⟨a2, p2, e2, ct⟩ := hQ3.out.sliceT (i := j) hj
              have hzz := HZN.out j j16 hj
              rw [← hzz] at ct e2
              have hle := HZL.out j j16 hj
              obtain ⟨l, hl⟩ : ∃ l, Z j = l := ⟨_, rfl⟩
              rw [hl] at ca ct e1 e2 hle
              obtain ⟨ln, hln⟩ : ∃ ln, l.length = ln := ⟨_, rfl⟩
              rw [hln] at ca ct e1 e2 hle
              have HLN := hid (And.intro hl hln)
              have HE := hid (And.intro e1 (And.intro e2 hzz))
              have hnn : ((ln : Int) != (ln : Int)) = false := by simp
              have hw3 : IntKind.i64.wrap ((j : Int) + 1) = (j : Int) + 1 := IntWalk.i64_in _ ⟨by omega, by omega⟩
              clear hl hln e1 e2 hzz
              go_wp2_with fail
              go_quiet (fail)
              clear ca ct
              go_wp2_with fail
              go_loopw [18] (fun vi W' => ∃ t : Nat, t ≤ ln ∧ vi = .int .i64 t ∧ Hid (Qm w1 W' sb S [] ba (ba + 1) H Z [])) (fun vi _ => ln - (intOf vi).toNat)
              case atStart => exact ⟨0, by omega, rfl, hid (hQ3.out.go (by first | exact Kp.drewN _ _ _ | exact Kp.drew _ _))⟩
              case round =>
                obtain ⟨t, ht, rfl, hQ4⟩ := hrel
                clear hQ3
                obtain ⟨b1, c1, e1, ca⟩ := hQ4.out.sliceA (i := j) hj
                obtain ⟨b2, c2, e2, ct⟩ := hQ4.out.sliceT (i := j) hj
                rw [HE.out.1] at e1
                rw [HE.out.2.1] at e2
                rw [HLN.out.1, HLN.out.2] at e1 ca
                rw [← HE.out.2.2, HLN.out.1, HLN.out.2] at e2 ct
                simp only [Value.slice.injEq, true_and] at e1 e2
                obtain ⟨rfl, rfl⟩ := e1
                obtain ⟨rfl, rfl⟩ := e2
                by_cases htl : t < ln
                · have htI : (t : Int) < ln := by omega
                  have ht0 : ¬ (t : Int) < 0 := by omega
                  have r1 := hQ4.out.rowN (i := j) (by omega)
                  have r2 := hQ4.out.rowN (i := 32 + j) (by omega)
                  rw [HE.out.1, HLN.out.1] at r1
                  rw [HE.out.2.1, ← HE.out.2.2, HLN.out.1] at r2
                  obtain ⟨g1, rfl, v1, -⟩ := r1.at (k := t) (by rw [HLN.out.2]; exact htl) rfl
                  obtain ⟨g2, rfl, v2, -⟩ := r2.at (k := t) (by rw [HLN.out.2]; exact htl) rfl
                  obtain ⟨xv, hxv⟩ : ∃ xv, l[t]! = xv := ⟨_, rfl⟩
                  rw [hxv] at v1 v2
                  have hxx : (xv != xv) = false := by simp
                  have hw4 : IntKind.i64.wrap ((t : Int) + 1) = (t : Int) + 1 := IntWalk.i64_in _ ⟨by omega, by omega⟩
                  clear r1 r2 hxv
                  go_wp2_with fail
                  go_quiet (fail)
                  clear ca ct v1 v2
                  go_wp2
                  go_roundw
                  case rel => exact ⟨t + 1, by omega, by simp, hid (hQ4.out.go (by first | exact Kp.drewN _ _ _ | exact Kp.drew _ _))⟩
                  case measure => simp [intOf]; omega
                · have htI : ¬ (t : Int) < ln := by omega
                  go_wp2
                  go_roundw
                  case rel => exact ⟨j + 1, by omega, by omega, by simp, hQ4⟩
                  case measure => simp [intOf]; omega
            · obtain rfl : j = 32 := by omega
              have h32 : ¬ (((32 : Nat) : Int) < 32) := by omega
              have CP := hid (hQ3.out.call (f := 18) (args := #[.pointer (some ⟨sb, 0, none⟩), .int .i64 1]) (v := .int .u32 0) (fun R hs => (kp_same (pending_any _ sb R 3 S _ [] 1 hs)).mono (fun _ _ h => ⟨h.1, To.stay hs h.2⟩)))
              go_wp2_with fail
              refine CP.out.mono ?_
              rintro e wP ⟨rfl, hq⟩
              have CU := hid (hq.call (f := 17) (args := #[.pointer (some ⟨sb, 0, none⟩)]) (v := .int .i64 0) (fun R hs => (used_any _ sb R 3 S _ [] hs).mono (fun _ _ h => ⟨h.1, To.stay hs h.2⟩)))
              clear hq CP
              go_wp2_with fail
              refine CU.out.mono ?_
              rintro e wU ⟨rfl, hq⟩
              have KF := hid (K0.out.trans hq.kp)
              clear hq CU
              go_wp2
              go_ret
              exact ⟨rfl, KF.out⟩
    have HTD := hid HTD
    clear HKD
    go_loopw [9] (fun vi W => ∃ (i : Nat) (L : El) (H : Nat → Value) (Z : Nat → List Int), i ≤ 120 ∧ vi = .int .i64 i ∧ Hid (Qm w1 W sb S L ba (ba + 1) H Z []) ∧ Hid (Pv i L Z)) (fun vi _ => 120 - (intOf vi).toNat)
    case atStart => exact ⟨0, [], _, _, by omega, rfl, Q0, hid ⟨by simp, fun n _ _ => rfl, fun n _ => rfl, fun n _ => by simp⟩⟩
    case round =>
      obtain ⟨i, L, H, Z, hi, rfl, hQ, hP⟩ := hrel
      clear Q0
      by_cases hin : i < N ∧ i < 120
      · have h1 : (i : Int) < N := by omega
        have h2 : (i : Int) < 120 := by omega
        have K1 := hid (K0.out.trans hQ.out.kp)
        obtain ⟨gb, off, rfl, y0, y1, y2, y3, y4⟩ := (HV.out.keep K1.out).at hin.1
        have HU := hid (HV.out.u32 hin.1)
        go_upto_if 45 with fail
        go_cut [11, 12] (fun _ _ wx => ∃ (L' : El) (H' : Nat → Value) (Z' : Nat → List Int), Hid (Qm w1 wx sb S L' ba (ba + 1) H' Z' []) ∧ Hid (Pv (i + 1) L' Z'))
        case first =>
          have hqa := hQ.out.alloc #[.int .i64 (F i).k, .int .i64 (F i).t, .int .i64 (F i).n, .int .i64 (F i).v, .int .u32 (F i).x] 36 (by decide)
          obtain ⟨WA, hWA⟩ : ∃ WA, wr.alloc (.cells #[.int .i64 (F i).k, .int .i64 (F i).t, .int .i64 (F i).n, .int .i64 (F i).v, .int .u32 (F i).x] 36) = WA := ⟨_, rfl⟩
          rw [hWA] at hqa
          simp only [hWA]
          obtain ⟨x0, x2, x3, x4⟩ := five (hqa.box (.head _))
          clear hWA y0 y1 y2 y3 y4 K1 hQ
          by_cases hk : (F i).k = 1
          · have hk1 : ((F i).k == 1) = true := by simp [hk]
            have CS := hid (hqa.call (f := 15) (fun R hs => send_any WA sb R 3 S _ L 1 (F i).n (F i).v hs))
            have PS := hid (hP.out.send (S := S) (F i).n (F i).v)
            generalize sendE 3 S L 1 (F i).n = E at CS PS
            generalize sendL 3 S L 1 (F i).n (F i).v = L' at CS PS
            clear hqa
            go_wp2_with fail
            refine CS.out.mono ?_
            rintro e wB ⟨rfl, hq⟩
            obtain ⟨x0, x2, x3, x4⟩ := five (hq.box (.head _))
            have QB := hid hq
            clear hq CS
            go_wp2_with fail
            refine (num_any _ _).mono ?_
            rintro e wx ⟨rfl, hw⟩; obtain rfl := hw.symm
            by_cases hE : E = 0
            · subst hE
              by_cases h16 : 16 ≤ (F i).n
              · obtain ⟨n, hn, hn16, hn31, hPn⟩ := PS.out.1 ⟨rfl, h16⟩
                rw [hn] at x2 h16
                have HPn := hid hPn
                have hbig : (16 : Int) ≤ (n : Int) := by omega
                have HXC := hid (show ∀ z, Kp wB z [] → z.cell? ⟨wr.heap.size, 2, none⟩ = some (.int .i64 (n : Nat)) ∧ z.cell? ⟨wr.heap.size, 3, none⟩ = some (.int .i64 (F i).v) from fun z hz => ⟨hz.cell x2 (by simp), hz.cell x3 (by simp)⟩)
                have QD := QB.out.go (Kp.drew wB [])
                obtain ⟨V', w2', hrun, hbx2, hca, hfz, hq2⟩ := QD.pushA (i := n) (by omega) (F i).v (by have := hP.out.len n (by omega); omega)
                obtain ⟨ao1, cp1, hV1, -⟩ := hq2.sliceA (i := n) (by omega)
                rw [show updH H n V' n = V' by simp [updH]] at hV1
                obtain ⟨ln1, hln1⟩ : ∃ ln1, (updZ Z n (Z n ++ [(F i).v]) n).length = ln1 := ⟨_, rfl⟩
                rw [hln1] at hV1
                subst hV1
                clear hln1
                obtain ⟨ao0, cp0, hHV, hc0⟩ := QD.sliceA (i := n) (by omega)
                obtain ⟨ln0, hln⟩ : ∃ ln0, (Z n).length = ln0 := ⟨_, rfl⟩
                rw [hln] at hHV hc0
                have HC0 := hid hc0
                have HC1 := hid (show (wB.alloc (.cells #[.int .i64 (F i).v] 2)).cell? ⟨ba, n, none⟩ = some (.slice ao0 ln0 cp0) from (Kp.alloc _ _ []).cell hc0 (by simp))
                have HC2 := hid (And.intro hca hfz)
                rw [hHV] at hrun
                have HRUN := hid (show (Builtin.append_ #[43, 43] 43 #[.slice ao0 ln0 cp0, .slice (some ⟨wB.heap.size, 0, none⟩) 1 1]).run Try.prog (wB.alloc (.cells #[.int .i64 (F i).v] 2)).drew = .ok (.slice ao1 ln1 cp1) w2' from hrun)
                obtain ⟨-, z2, z3, -⟩ := five (hbx2 _ (.head _))
                rw [show (F i).n = (n : Int) from hn] at z2
                have HX2 := hid (And.intro z2 z3)
                have hbx3 := hq2.box (.head _)
                obtain ⟨-, z2, z3, -⟩ := five hbx3
                rw [show (F i).n = (n : Int) from hn] at z2
                have HX3 := hid (And.intro z2 z3)
                have HQ2 := hid hq2
                have hn32 : (n : Int) < 32 := by omega
                have hn0 : ¬ (n : Int) < 0 := by omega
                clear hPn PS hrun hbx2 hca hfz hq2 hHV hc0 hln z2 z3 hbx3 hn h16
                go_upto_region 13 with fail
                clear x0 x2 x3 x4
                refine wp_region_held_drew (S := fun W : World => W.cell? ⟨wr.heap.size, 2, none⟩ = some (.int .i64 (n : Nat)) ∧ W.cell? ⟨wr.heap.size, 3, none⟩ = some (.int .i64 (F i).v)) (by kernel_rfl) (HXC.out _ (Kp.drew _ _)) (fun hHeld => ?_)
                refine wpAnyH_take (i := 0) (v := .pointer (some ⟨wr.heap.size, 2, none⟩)) rfl (by kernel_rfl) (by kernel_rfl) (by kernel_rfl) (fun _ _ _ h => h) (Or.inl ⟨by kernel_rfl, fun w _ => by kernel_rfl⟩) hHeld ?_
                refine wpAnyH_take (i := 1) (v := .int .i64 (n : Nat)) rfl (by kernel_rfl) (by kernel_rfl) (by kernel_rfl) (fun _ _ _ h => h) (Or.inl ⟨by kernel_rfl, by intro w hSw; obtain ⟨s0, s1⟩ := hSw; go_simp⟩) hHeld ?_
                refine wpAnyH_take (i := 2) (v := .pointer (some ⟨wr.heap.size, 2, none⟩)) rfl (by kernel_rfl) (by kernel_rfl) (by kernel_rfl) (fun _ _ _ h => h) (Or.inl ⟨by kernel_rfl, fun w _ => by kernel_rfl⟩) hHeld ?_
                refine wpAnyH_take (i := 3) (v := .int .i64 (n : Nat)) rfl (by kernel_rfl) (by kernel_rfl) (by kernel_rfl) (fun _ _ _ h => h) (Or.inl ⟨by kernel_rfl, by intro w hSw; obtain ⟨s0, s1⟩ := hSw; go_simp⟩) hHeld ?_
                refine wpAnyH_take (i := 4) (v := .pointer (some ⟨ba, n, none⟩)) rfl (by kernel_rfl) (by kernel_rfl) (by kernel_rfl) (fun _ _ _ h => h) (Or.inl ⟨by kernel_rfl, by intro w hSw; go_simp⟩) hHeld ?_
                refine wpAnyH_take (i := 6) (v := .pointer (some ⟨wr.heap.size, 3, none⟩)) rfl (by kernel_rfl) (by kernel_rfl) (by kernel_rfl) (fun _ _ _ h => h) (Or.inl ⟨by kernel_rfl, fun w _ => by kernel_rfl⟩) hHeld ?_
                refine wpAnyH_take (i := 7) (v := .int .i64 (F i).v) rfl (by kernel_rfl) (by kernel_rfl) (by kernel_rfl) (fun _ _ _ h => h) (Or.inl ⟨by kernel_rfl, by intro w hSw; obtain ⟨s0, s1⟩ := hSw; go_simp⟩) hHeld ?_
                refine wpAnyH_ready (rs := [5, 8]) (by kernel_rfl) (by simp) ?_
                refine AllReadyH.cons rfl (fun K hK => ?_) (AllReadyH.cons rfl (fun K hK => ?_) AllReadyH.nil)
                · have hc := HC0.out
                  go_simp
                  refine hK.out _ _ (HXC.out _ (Kp.drew _ _)) (fun hHeld => ?_)
                  refine wpAnyH_ready (rs := [8]) (by kernel_rfl) (by simp) ?_
                  refine AllReadyH.cons rfl (fun K hK => ?_) AllReadyH.nil
                  go_simp
                  refine hK.out _ _ (HXC.out _ ((Kp.alloc _ _ _).trans (Kp.drew _ _))) (fun hHeld => ?_)
                  refine wpAnyH_ready (rs := [9]) (by kernel_rfl) (by simp) ?_
                  refine AllReadyH.cons rfl (fun K hK => ?_) AllReadyH.nil
                  rw [if_pos (by kernel_rfl)]
                  refine wp_app _ _ (by rfl) (.slice ao0 ln0 cp0) (.slice (some ⟨wB.heap.size, 0, none⟩) 1 1) (.slice ao1 ln1 cp1) w2' (by kernel_rfl) (by kernel_rfl) HRUN.out ?_
                  refine hK.out _ _ (HX2.out) (fun hHeld => ?_)
                  refine wpAnyH_take (i := 10) (v := .pointer (some ⟨ba, n, none⟩)) rfl (by kernel_rfl) (by kernel_rfl) (by kernel_rfl) (fun _ _ _ h => h) (Or.inl ⟨by kernel_rfl, by intro w hSw; go_simp⟩) hHeld ?_
                  refine wpAnyH_ready (rs := [11]) (by kernel_rfl) (by simp) ?_
                  refine AllReadyH.cons rfl (fun K hK => ?_) AllReadyH.nil
                  have hc := HC2.out.1
                  have hf := HC2.out.2
                  go_simp
                  refine hK.out _ _ (HX3.out) (fun hHeld => ?_)
                  refine wpAnyH_done (by kernel_rfl) ?_ _
                  go_wp2
                  go_meet
                  case rel => exact ⟨L', _, _, hid (HQ2.out.sub (by simp)), HPn⟩
                · go_simp
                  refine hK.out _ _ (HXC.out _ ((Kp.alloc _ _ _).trans (Kp.drew _ _))) (fun hHeld => ?_)
                  refine wpAnyH_ready (rs := [5]) (by kernel_rfl) (by simp) ?_
                  refine AllReadyH.cons rfl (fun K hK => ?_) AllReadyH.nil
                  have hc := HC1.out
                  go_simp
                  refine hK.out _ _ (HXC.out _ ((Kp.alloc _ _ _).trans (Kp.drew _ _))) (fun hHeld => ?_)
                  refine wpAnyH_ready (rs := [9]) (by kernel_rfl) (by simp) ?_
                  refine AllReadyH.cons rfl (fun K hK => ?_) AllReadyH.nil
                  rw [if_pos (by kernel_rfl)]
                  refine wp_app _ _ (by rfl) (.slice ao0 ln0 cp0) (.slice (some ⟨wB.heap.size, 0, none⟩) 1 1) (.slice ao1 ln1 cp1) w2' (by kernel_rfl) (by kernel_rfl) HRUN.out ?_
                  refine hK.out _ _ (HX2.out) (fun hHeld => ?_)
                  refine wpAnyH_take (i := 10) (v := .pointer (some ⟨ba, n, none⟩)) rfl (by kernel_rfl) (by kernel_rfl) (by kernel_rfl) (fun _ _ _ h => h) (Or.inl ⟨by kernel_rfl, by intro w hSw; go_simp⟩) hHeld ?_
                  refine wpAnyH_ready (rs := [11]) (by kernel_rfl) (by simp) ?_
                  refine AllReadyH.cons rfl (fun K hK => ?_) AllReadyH.nil
                  have hc := HC2.out.1
                  have hf := HC2.out.2
                  go_simp
                  refine hK.out _ _ (HX3.out) (fun hHeld => ?_)
                  refine wpAnyH_done (by kernel_rfl) ?_ _
                  go_wp2
                  go_meet
                  case rel => exact ⟨L', _, _, hid (HQ2.out.sub (by simp)), HPn⟩
              · have HP1 := hid (PS.out.2 (by omega))
                have hsm : ¬ (16 : Int) ≤ (F i).n := h16
                clear PS
                go_wp2
                go_meet
                case rel => exact ⟨L', H, Z, hid (QB.out.sub (by simp)), HP1⟩
            · have HP1 := hid (PS.out.2 (fun e => hE e.1))
              have hE0 : (E == 0) = false := by simpa using hE
              clear PS
              go_wp2
              go_meet
              case rel => exact ⟨L', H, Z, hid (QB.out.sub (by simp)), HP1⟩
          · have hk1 : ((F i).k == 1) = false := by simpa using hk
            have hN : nxN 3 L 1 (F i).x = low L 1 (F i).x := nxN_nat (T := 3) (t := 1) (F i).x (by decide)
            have CN := hqa.call (f := 16) (fun R hs => next_any WA sb R 3 S _ L 1 (F i).x HU.out hs)
            unfold nxV nxB nxL at CN
            rw [hN] at CN
            have hok := hqa.ok
            by_cases hn : low L 1 (F i).x ≤ 31
            · rw [if_pos hn, if_pos hn, decide_eq_true hn, show (1 : Int).toNat = 1 from rfl] at CN
              obtain ⟨p1, p2, p3, p4⟩ := hP.out.next hok hn
              unfold Sv at CN
              obtain ⟨m, hm⟩ : ∃ m, low L 1 (F i).x = m := ⟨_, rfl⟩
              rw [hm] at CN hn p1 p2 p3 p4
              obtain ⟨L', hL'⟩ : ∃ L', rm L 1 m = L' := ⟨_, rfl⟩
              obtain ⟨v, hv⟩ : ∃ v, hdv L 1 m = v := ⟨_, rfl⟩
              rw [hL', hv] at CN p3 p4
              have CN := hid CN
              have P3 := hid p3
              have P4 := hid p4
              have hm1 : ¬ (m : Int) < 1 := by omega
              have hm31 : ¬ (31 : Int) < m := by omega
              have hsh := shr_bit HU.out p2
              have hm32 : (m : Int) ≤ 32 := by omega
              have hm0 : (0 : Int) ≤ (m : Int) := by omega
              clear p3 p4 hN hok hm hL' hv hqa
              go_wp2_with fail
              refine CN.out.mono ?_
              rintro e wB ⟨rfl, hq⟩
              have hqz := hq.alloc #[.int .i64 m, .int .i64 v] 47 (by decide)
              obtain ⟨bz, hbz⟩ : ∃ bz, wB.heap.size = bz := ⟨_, rfl⟩
              obtain ⟨WB, hWB⟩ : ∃ WB, wB.alloc (.cells #[.int .i64 m, .int .i64 v] 47) = WB := ⟨_, rfl⟩
              rw [hbz, hWB] at hqz
              have z0 := cell_two0 (hqz.box (.head _))
              have z1 := cell_two1 (hqz.box (.head _))
              obtain ⟨x0, x2, x3, x4⟩ := five (hqz.box (.tail _ (.head _)))
              have QZ := hid hqz
              clear hq hqz CN
              by_cases h16 : 16 ≤ m
              · have hbig : (16 : Int) ≤ (m : Int) := by omega
                have hsm : ¬ (m : Int) < 16 := by omega
                have HPn := hid (P3.out h16)
                have HXC := hid (show ∀ z, Kp WB z [] → z.cell? ⟨bz, 0, none⟩ = some (.int .i64 (m : Nat)) ∧ z.cell? ⟨bz, 1, none⟩ = some (.int .i64 v) from fun z hz => ⟨hz.cell z0 (by simp), hz.cell z1 (by simp)⟩)
                have QD := QZ.out.go (Kp.drew WB [])
                obtain ⟨V', w2', hrun, hbx2, hca, hfz, hq2⟩ := QD.pushT (i := m) (by omega) v (by
                  have a := congrArg List.length (hP.out.row m h16 (by omega))
                  have b := hP.out.len m (by omega)
                  simp at a
                  omega)
                obtain ⟨ao1, cp1, hV1, -⟩ := hq2.sliceT (i := m) (by omega)
                rw [show updH H (32 + m) V' (32 + m) = V' by simp [updH]] at hV1
                obtain ⟨ln1, hln1⟩ : ∃ ln1, (updZ Z (32 + m) (Z (32 + m) ++ [v]) (32 + m)).length = ln1 := ⟨_, rfl⟩
                rw [hln1] at hV1
                subst hV1
                clear hln1
                obtain ⟨ao0, cp0, hHV, hc0⟩ := QD.sliceT (i := m) (by omega)
                obtain ⟨ln0, hln⟩ : ∃ ln0, (Z (32 + m)).length = ln0 := ⟨_, rfl⟩
                rw [hln] at hHV hc0
                have HC0 := hid hc0
                have HC1 := hid (show (WB.alloc (.cells #[.int .i64 v] 2)).cell? ⟨ba + 1, m, none⟩ = some (.slice ao0 ln0 cp0) from (Kp.alloc _ _ []).cell hc0 (by simp))
                have HC2 := hid (And.intro hca hfz)
                rw [hHV] at hrun
                have HRUN := hid (show (Builtin.append_ #[43, 43] 43 #[.slice ao0 ln0 cp0, .slice (some ⟨WB.heap.size, 0, none⟩) 1 1]).run Try.prog (WB.alloc (.cells #[.int .i64 v] 2)).drew = .ok (.slice ao1 ln1 cp1) w2' from hrun)
                have hbx2 := hbx2 _ (.head _)
                have HX2 := hid (And.intro (cell_two0 hbx2) (cell_two1 hbx2))
                have hbx3 := hq2.box (.head _)
                have HX3 := hid (And.intro (cell_two0 hbx3) (cell_two1 hbx3))
                have HQ2 := hid hq2
                have hn32 : (m : Int) < 32 := by omega
                have hn0 : ¬ (m : Int) < 0 := by omega
                clear hrun hbx2 hca hfz hq2 hHV hc0 hln hbx3 h16 P3 P4
                go_upto_region 18 with fail
                try simp only [hbz, hWB]
                clear hbz hWB z0 z1 x0 x2 x3 x4
                refine wp_region_held_drew (S := fun W : World => W.cell? ⟨bz, 0, none⟩ = some (.int .i64 (m : Nat)) ∧ W.cell? ⟨bz, 1, none⟩ = some (.int .i64 v)) (by kernel_rfl) (HXC.out _ (Kp.drew _ _)) (fun hHeld => ?_)
                refine wpAnyH_take (i := 0) (v := .pointer (some ⟨bz, 0, none⟩)) rfl (by kernel_rfl) (by kernel_rfl) (by kernel_rfl) (fun _ _ _ h => h) (Or.inl ⟨by kernel_rfl, fun w _ => by kernel_rfl⟩) hHeld ?_
                refine wpAnyH_take (i := 1) (v := .int .i64 (m : Nat)) rfl (by kernel_rfl) (by kernel_rfl) (by kernel_rfl) (fun _ _ _ h => h) (Or.inl ⟨by kernel_rfl, by intro w hSw; obtain ⟨s0, s1⟩ := hSw; go_simp⟩) hHeld ?_
                refine wpAnyH_take (i := 2) (v := .pointer (some ⟨bz, 0, none⟩)) rfl (by kernel_rfl) (by kernel_rfl) (by kernel_rfl) (fun _ _ _ h => h) (Or.inl ⟨by kernel_rfl, fun w _ => by kernel_rfl⟩) hHeld ?_
                refine wpAnyH_take (i := 3) (v := .int .i64 (m : Nat)) rfl (by kernel_rfl) (by kernel_rfl) (by kernel_rfl) (fun _ _ _ h => h) (Or.inl ⟨by kernel_rfl, by intro w hSw; obtain ⟨s0, s1⟩ := hSw; go_simp⟩) hHeld ?_
                refine wpAnyH_take (i := 4) (v := .pointer (some ⟨ba + 1, m, none⟩)) rfl (by kernel_rfl) (by kernel_rfl) (by kernel_rfl) (fun _ _ _ h => h) (Or.inl ⟨by kernel_rfl, by intro w hSw; go_simp⟩) hHeld ?_
                refine wpAnyH_take (i := 6) (v := .pointer (some ⟨bz, 1, none⟩)) rfl (by kernel_rfl) (by kernel_rfl) (by kernel_rfl) (fun _ _ _ h => h) (Or.inl ⟨by kernel_rfl, fun w _ => by kernel_rfl⟩) hHeld ?_
                refine wpAnyH_take (i := 7) (v := .int .i64 v) rfl (by kernel_rfl) (by kernel_rfl) (by kernel_rfl) (fun _ _ _ h => h) (Or.inl ⟨by kernel_rfl, by intro w hSw; obtain ⟨s0, s1⟩ := hSw; go_simp⟩) hHeld ?_
                refine wpAnyH_ready (rs := [5, 8]) (by kernel_rfl) (by simp) ?_
                refine AllReadyH.cons rfl (fun K hK => ?_) (AllReadyH.cons rfl (fun K hK => ?_) AllReadyH.nil)
                · have hc := HC0.out
                  go_simp
                  refine hK.out _ _ (HXC.out _ (Kp.drew _ _)) (fun hHeld => ?_)
                  refine wpAnyH_ready (rs := [8]) (by kernel_rfl) (by simp) ?_
                  refine AllReadyH.cons rfl (fun K hK => ?_) AllReadyH.nil
                  go_simp
                  refine hK.out _ _ (HXC.out _ ((Kp.alloc _ _ _).trans (Kp.drew _ _))) (fun hHeld => ?_)
                  refine wpAnyH_ready (rs := [9]) (by kernel_rfl) (by simp) ?_
                  refine AllReadyH.cons rfl (fun K hK => ?_) AllReadyH.nil
                  rw [if_pos (by kernel_rfl)]
                  refine wp_app _ _ (by rfl) (.slice ao0 ln0 cp0) (.slice (some ⟨WB.heap.size, 0, none⟩) 1 1) (.slice ao1 ln1 cp1) w2' (by kernel_rfl) (by kernel_rfl) HRUN.out ?_
                  refine hK.out _ _ (HX2.out) (fun hHeld => ?_)
                  refine wpAnyH_take (i := 10) (v := .pointer (some ⟨ba + 1, m, none⟩)) rfl (by kernel_rfl) (by kernel_rfl) (by kernel_rfl) (fun _ _ _ h => h) (Or.inl ⟨by kernel_rfl, by intro w hSw; go_simp⟩) hHeld ?_
                  refine wpAnyH_ready (rs := [11]) (by kernel_rfl) (by simp) ?_
                  refine AllReadyH.cons rfl (fun K hK => ?_) AllReadyH.nil
                  have hc := HC2.out.1
                  have hf := HC2.out.2
                  go_simp
                  refine hK.out _ _ (HX3.out) (fun hHeld => ?_)
                  refine wpAnyH_done (by kernel_rfl) ?_ _
                  have hz0 := HX3.out.1
                  have hz1 := HX3.out.2
                  go_wp2
                  go_meet
                  case rel => exact ⟨L', _, _, hid (HQ2.out.sub (by simp)), HPn⟩
                · go_simp
                  refine hK.out _ _ (HXC.out _ ((Kp.alloc _ _ _).trans (Kp.drew _ _))) (fun hHeld => ?_)
                  refine wpAnyH_ready (rs := [5]) (by kernel_rfl) (by simp) ?_
                  refine AllReadyH.cons rfl (fun K hK => ?_) AllReadyH.nil
                  have hc := HC1.out
                  go_simp
                  refine hK.out _ _ (HXC.out _ ((Kp.alloc _ _ _).trans (Kp.drew _ _))) (fun hHeld => ?_)
                  refine wpAnyH_ready (rs := [9]) (by kernel_rfl) (by simp) ?_
                  refine AllReadyH.cons rfl (fun K hK => ?_) AllReadyH.nil
                  rw [if_pos (by kernel_rfl)]
                  refine wp_app _ _ (by rfl) (.slice ao0 ln0 cp0) (.slice (some ⟨WB.heap.size, 0, none⟩) 1 1) (.slice ao1 ln1 cp1) w2' (by kernel_rfl) (by kernel_rfl) HRUN.out ?_
                  refine hK.out _ _ (HX2.out) (fun hHeld => ?_)
                  refine wpAnyH_take (i := 10) (v := .pointer (some ⟨ba + 1, m, none⟩)) rfl (by kernel_rfl) (by kernel_rfl) (by kernel_rfl) (fun _ _ _ h => h) (Or.inl ⟨by kernel_rfl, by intro w hSw; go_simp⟩) hHeld ?_
                  refine wpAnyH_ready (rs := [11]) (by kernel_rfl) (by simp) ?_
                  refine AllReadyH.cons rfl (fun K hK => ?_) AllReadyH.nil
                  have hc := HC2.out.1
                  have hf := HC2.out.2
                  go_simp
                  refine hK.out _ _ (HX3.out) (fun hHeld => ?_)
                  refine wpAnyH_done (by kernel_rfl) ?_ _
                  have hz0 := HX3.out.1
                  have hz1 := HX3.out.2
                  go_wp2
                  go_meet
                  case rel => exact ⟨L', _, _, hid (HQ2.out.sub (by simp)), HPn⟩
              · have hsm : (m : Int) < 16 := by omega
                have hbig : ¬ (16 : Int) ≤ (m : Int) := by omega
                obtain ⟨hv0, HPn⟩ := P4.out (by omega)
                have HPn := hid HPn
                have hvb : (v != 0) = false := by rw [hv0]; rfl
                clear P3 P4 hv0
                go_upto_region 19 with fail
                try simp only [hbz, hWB]
                clear hbz hWB
                go_wp2
                go_meet
                case rel => exact ⟨L', H, Z, hid (QZ.out.sub (by simp)), HPn⟩
            · rw [if_neg hn, if_neg hn, decide_eq_false hn] at CN
              unfold Sv at CN
              have CN := hid CN
              clear hN hok hqa
              go_wp2_with fail
              refine CN.out.mono ?_
              rintro e wB ⟨rfl, hq⟩
              have QZ := hid (hq.go (Kp.alloc wB (.cells #[.int .i64 0, .int .i64 0] 47) []))
              have HP1 := hid (hP.out.more (j := i + 1) (by omega))
              clear hq CN hn x0 x2 x3 x4
              go_upto_region 15 with fail
              go_wp2
              go_meet
              case rel => exact ⟨L, H, Z, hid (QZ.out.sub (by simp)), HP1⟩
        case rest =>
          obtain ⟨L2, H2, Z2, hQ2, hP2⟩ := hcut
          clear hP hQ K1 y0 y1 y2 y3 y4 HU
          have hthr := hP2.out.thr
          have hinn : ∀ x ∈ L2, x.2.1 < 32 := fun x hx => by have := hQ2.out.ok.inn x hx; omega
          have hsu := sQ_used L2 hinn
          have hst := hid (fun k (hk : 16 ≤ k) => sQ_step L2 hthr k hk)
          have hus : used L2 ≤ S := hQ2.out.ok.few
          have hS32 := HS.out.2
          have hle := hid (fun k => sQ_le L2 k)
          have h00 := sQ_zero L2
          clear hthr hinn
          have hwi : IntKind.i64.wrap ((i : Int) + 1) = (i : Int) + 1 := IntWalk.i64_in _ ⟨by omega, by omega⟩
          go_upto_region 23 with fail
          go_loopw [13, 14] (fun vn vk W' => ∃ j : Nat, 16 ≤ j ∧ j ≤ 32 ∧ vk = .int .i64 j ∧ vn = .int .i64 (sQ L2 j : Nat) ∧ Hid (Qm w1 W' sb S L2 ba (ba + 1) H2 Z2 [])) (fun _ vk _ => 32 - (intOf vk).toNat)
          case atStart => exact ⟨16, by omega, by omega, rfl, by rw [h00]; rfl, hQ2⟩
          case round =>
            obtain ⟨j, j16, j32, rfl, rfl, hQ3⟩ := hrel
            clear hQ2
            by_cases hj : j < 32
            · have hjI : (j : Int) < 32 := by omega
              have hj0 : ¬ (j : Int) < 0 := by omega
              obtain ⟨a1, p1, -, ca⟩ := hQ3.out.sliceA (i := j) hj
              obtain ⟨a2, p2, -, ct⟩ := hQ3.out.sliceT (i := j) hj
              have hr := congrArg List.length (hP2.out.row j j16 hj)
              rw [List.length_append] at hr
              have hs := hst.out j j16
              have hlj := hle.out j
              have hlen := hP2.out.len j hj
              generalize (Z2 j).length = la at ca hr hlen
              generalize (Z2 (32 + j)).length = lt at ct hr
              have hs2 : ((sQ L2 (j + 1) : Nat) : Int) = (sQ L2 j : Nat) + (la : Int) - lt := by omega
              have hw1 : IntKind.i64.wrap (((sQ L2 j : Nat) : Int) + la) = (sQ L2 j : Nat) + (la : Int) := IntWalk.i64_in _ ⟨by omega, by omega⟩
              have hw2 : IntKind.i64.wrap (((sQ L2 j : Nat) : Int) + la - lt) = (sQ L2 j : Nat) + (la : Int) - lt := IntWalk.i64_in _ ⟨by omega, by omega⟩
              have hw3 : IntKind.i64.wrap ((j : Int) + 1) = (j : Int) + 1 := IntWalk.i64_in _ ⟨by omega, by omega⟩
              have HS2 := hid hs2
              clear hs2 hs hr hlj hlen hsu
              generalize sQ L2 j = n0 at hw1 hw2 HS2 ⊢
              go_wp2_with fail
              go_quiet (fail)
              go_wp2
              go_roundw
              case rel => exact ⟨j + 1, by omega, by omega, by simp, by rw [HS2.out], hid (hQ3.out.go (by first | exact Kp.drewN _ _ _ | exact Kp.drew _ _))⟩
              case measure => simp [intOf]; omega
            · obtain rfl : j = 32 := by omega
              have h32 : ¬ (((32 : Nat) : Int) < 32) := by omega
              rw [hsu]
              have CU := hid (hQ3.out.call (f := 17) (args := #[.pointer (some ⟨sb, 0, none⟩)]) (v := .int .i64 (used L2 : Nat)) (fun R hs => (used_any _ sb R 3 S _ L2 hs).mono (fun _ _ h => ⟨h.1, To.stay hs h.2⟩)))
              have hu1 : ((used L2 : Int) != (used L2 : Int)) = false := by simp
              have hu2 : ¬ (S : Int) < (used L2 : Int) := by omega
              clear hsu h00
              go_wp2_with fail
              refine CU.out.mono ?_
              rintro e wU ⟨rfl, hq⟩
              have QU := hid hq
              clear hq CU
              go_wp2
              go_roundw
              case rel => exact ⟨i + 1, L2, H2, Z2, by omega, by simp, QU, hP2⟩
              case measure => simp [intOf]; omega
      · have hx : ¬ (i : Int) < N ∨ ((i : Int) < N ∧ ¬ (i : Int) < 120) := by omega
        clear hin
        rcases hx with h1 | ⟨h1, h2⟩
        · go_wp2_with fail
          exact HTD.out i L H Z _ _ _ _ _ _ _ _ _ _ _ _ _ _ _ _ _ _ _ _ _ _ _ _ _ _ _ _ _ _ _ _ _ _ _ _ _ _ _ _ _ _ _ _ _ _ _ _ _ _ _ _ _ _ _ _ _ _ _ _ _ _ _ _ _ _ _ _ _ _ _ _ _ _ _ _ _ _ _ _ _ _ _ _ _ _ _ _ _ _ _ _ _ _ _ _ _ _ _ _ _ _ _ _ _ _ _ _ _ _ _ _ _ _ _ _ _ _ _ _ _ _ _ _ _ _ _  hi hQ hP
        · go_wp2_with fail
          exact HTD.out i L H Z _ _ _ _ _ _ _ _ _ _ _ _ _ _ _ _ _ _ _ _ _ _ _ _ _ _ _ _ _ _ _ _ _ _ _ _ _ _ _ _ _ _ _ _ _ _ _ _ _ _ _ _ _ _ _ _ _ _ _ _ _ _ _ _ _ _ _ _ _ _ _ _ _ _ _ _ _ _ _ _ _ _ _ _ _ _ _ _ _ _ _ _ _ _ _ _ _ _ _ _ _ _ _ _ _ _ _ _ _ _ _ _ _ _ _ _ _ _ _ _ _ _ _ _ _ _ _  hi hQ hP
end Go.Proofs.Ytoenipaccnpihaa
