/- The walk of metronomelaw01.WireWrites: it returns true, and writes nothing that was there. -/
import Derived.Test.YtnnjfhgdimcieaaSpoil
import Derived.Test.YtnnjfhgdimcieaaBackWalk
import Derived.Deep.DeepCutAuto
import Derived.Deep.DrawnRows
import Derived.WideShapes
namespace Go.Proofs.Ytnnjfhgdimcieaa
open Go.RowKit

attribute [local go_sem ↓] Go.wp_at_zero Go.wp_at_succ

/-- Bytes as a string, in w. -/
abbrev Cv (w : World) (v : Value) (l : List Int) : Prop := (convert 23 9 v).run Try.prog w = .ok (.string (strOfNums l)) w

/-- An append onto what the call owns, of bytes that are read, wherever they lie. -/
theorem wpList_append_bs {w : World} {ops : Array Oper} {rest : List Oper} {o : Oper} {a : Act} {Q : Exit → Act → World → Prop} (hgd : o.guard = none) (s x : Operand)
    (ho : o.op = .call { callee := .builtin .append, args := #[s, x], argTypes := #[23, 23] })
    (base : Nat) (v : Value) (n : Nat) (xs : List Value) (hs : a.eval s = v) (hown : w.ownsRow base 5 1 v n xs)
    (vx : Value) (l : List Int) (hx : a.eval x = vx) (hb : Bs w vx l) (hm : n + l.length ≤ 140737488355328) (hbase : base ≤ w.heap.size)
    (h : ∀ v' w', w'.ownsRow base 5 1 v' (n + l.length) (xs ++ ub l) → w.grownBy w' v.ownBlock → wpList Try.prog ops Q rest (a.put o.dst v') w') : wpList Try.prog ops Q (o :: rest) a w := by
  obtain ⟨i0, hi, hz0, hz1, hz2⟩ := info_parts Try.info5
  have hb' := hb
  obtain ⟨ao, cap, rfl, hl, hn, -⟩ := hb
  cases ao with
  | none =>
    obtain rfl : cap = 0 := hn rfl
    have hl0 : l = [] := List.eq_nil_of_length_eq_zero (by omega)
    subst hl0
    refine wpList_append_own_none hgd s x 23 ho base 5 i0 1 Try.underlying23 hi v n xs hs hown hx ?_
    exact h v w (by simpa [ub] using hown) (World.grownBy.refl _ _)
  | some ad =>
    exact wpList_append_own w hgd s x 23 ho base 5 i0 (.int .u8 0) 1 1 Try.underlying23 hi hz0 hz1 hz2 rfl (by decide) v n xs hs hown ad l.length cap (ub l) hx (by simp [ub]) (hb'.cells rfl fun _ _ => rfl) (ub_one l) (by unfold maxLen; omega) (by omega) hbase fun v' w' a1 a2 _ => h v' w' a1 a2

/-- What is read stays so where another row is written. -/
theorem Bs.row {w w' : World} {v : Value} {l : List Int} {row : Option Nat} (h : Bs w v l) (hg : w.grownBy w' row) (hr : ∀ k, v.ownBlock = some k → row ≠ some k) : Bs w' v l := by
  by_cases hl : l = []
  · subst hl
    obtain ⟨ao, cap, rfl, a, b, c⟩ := h
    exact ⟨ao, cap, rfl, a, b, fun h => absurd rfl h⟩
  · exact h.keep fun k hk => hg.block k (h.lt hl k hk) (fun e => hr k hk e.symm)

/-- A list of byte slices stays so. -/
theorem Ls.grown {w w' : World} {v : Value} {ls : List (List Int)} (h : Ls w v ls) (hg : w.grownBy w' none) : Ls w' v ls := by
  obtain ⟨ao, cap, vs, rfl, hvl, hlc, hc, hb⟩ := h
  refine ⟨ao, cap, vs, rfl, hvl, hlc, fun hne => ?_, fun i hi => (hb i hi).grown hg⟩
  obtain ⟨b, off, rfl, hcell⟩ := hc hne
  exact ⟨b, off, rfl, fun i hi => (World.cell?_of_block (a := ⟨b, off + i, none⟩) (hg.block b (World.block_lt_of_cell? w _ (hcell i hi)) (by simp))).trans (hcell i hi)⟩

/-- One of them. -/
theorem box_base {W w1 : World} {b : Nat} {N S : Int} {F : Bool} {vB : Value} (h : Box W b N S F vB w1) : Box w1 b N S F vB w1 :=
  ⟨h.1, h.2.1, h.2.2.1, h.2.2.2.1, World.grownBy.refl _ _, World.block_lt_of_cell? w1 _ h.1⟩
theorem box_of {W w1 : World} {b : Nat} {N S : Int} {F : Bool} {vB : Value} (h : Box W b N S F vB w1) : W.grownBy w1 none := h.2.2.2.2.1.out

theorem Ls.at {w : World} {ao : Option Addr} {n cap : Nat} {ls : List (List Int)} (h : Ls w (.slice ao n cap) ls) {k : Nat} (hk : k < ls.length) :
    ∃ b off vk, ao = some ⟨b, off, none⟩ ∧ w.cell? ⟨b, off + k, none⟩ = some vk ∧ Bs w vk (ls.getD k []) ∧ ls.length ≤ cap ∧ n = ls.length := by
  obtain ⟨ao', cap', vs, hv, hvl, hlc, hc, hb⟩ := h
  simp only [Value.slice.injEq] at hv
  obtain ⟨rfl, rfl, rfl⟩ := hv
  obtain ⟨b, off, rfl, hcell⟩ := hc (by intro e; subst e; simp at hk)
  exact ⟨b, off, _, rfl, hcell k hk, hb k hk, hlc, rfl⟩

theorem flat_mid (ls : List (List Int)) (k : Nat) (h : k < ls.length) : (ls.flatten.drop (ls.take k).flatten.length).take (ls.getD k []).length = ls.getD k [] := by
  have e : ls.flatten = (ls.take k).flatten ++ (ls.getD k [] ++ (ls.drop (k + 1)).flatten) := by
    rw [← List.append_assoc, ← flat_snoc ls k h, ← List.flatten_append, List.take_append_drop]
  rw [e, List.drop_left, List.take_left]

theorem bs_mid {w : World} {a : Addr} {cap K n : Nat} {l : List Int} (h : Bs w (.slice (some a) l.length cap) l) (hn : K + n ≤ l.length) : Bs w (.slice (some (a.add K)) n (cap - K)) ((l.drop K).take n) := by
  have h1 := bs_drop_any (n := K) h (by omega)
  rw [show l.length - K = (l.drop K).length by simp] at h1
  exact bs_take h1 (by simp; omega)

theorem sn_snoc (l : List Int) : strOfNums l ++ ⟨#[119]⟩ = strOfNums (l ++ [119]) := by
  apply Go.WideShapes.bytes_inj
  rw [strOfNums_data, ByteArray.data_append, Array.toList_append, strOfNums_data, List.map_append]
  rfl

/-- Two rows that were made one behind the other. -/
theorem rows_apart {v1 v2 : Value} {a b c d : Nat} (h1 : ∀ k, v1.ownBlock = some k → a ≤ k ∧ k < b) (h2 : ∀ k, v2.ownBlock = some k → c ≤ k ∧ k < d) (hbc : b ≤ c) : ∀ k, v1.ownBlock = some k → v2.ownBlock ≠ some k := by
  intro k hk e
  have := (h1 k hk).2
  have := (h2 k e).1
  omega
theorem rows_apart' {v1 v2 : Value} {a b c d : Nat} (h1 : ∀ k, v1.ownBlock = some k → a ≤ k ∧ k < b) (h2 : ∀ k, v2.ownBlock = some k → c ≤ k ∧ k < d) (hbc : b ≤ c) : ∀ k, v2.ownBlock = some k → v1.ownBlock ≠ some k := by
  intro k hk e
  have := (h1 k e).2
  have := (h2 k hk).1
  omega
theorem kept_of {v1 v2 : Value} (h : ∀ k, v1.ownBlock = some k → v2.ownBlock ≠ some k) : v1.ownBlock = none ∨ v1.ownBlock ≠ v2.ownBlock := by
  cases hk : v1.ownBlock with
  | none => exact .inl rfl
  | some k => exact .inr fun e => h k hk e.symm
theorem below_past {B : Nat} {w w1 w2 : World} {row : Option Nat} (h : Below B w w1) (hg : w1.grownBy w2 row) (hB : B ≤ w.heap.size) (hr : ∀ k, row = some k → B ≤ k) : Below B w w2 := h.grown hg (Nat.le_trans hB h.size) hr
theorem Bs.below {B : Nat} {w w' : World} {v : Value} {l : List Int} (h : Bs w v l) (hb : Below B w w') (hv : ∀ k, v.ownBlock = some k → k < B) : Bs w' v l := h.keep fun k hk => hb.block k (hv k hk)
theorem grown_below {w w1 w2 : World} (h : w.grownBy w1 none) (hb : Below w1.heap.size w1 w2) : w.grownBy w2 none :=
  ⟨hb.os.trans h.os, hb.tape.trans h.tape, hb.output.trans h.output, Nat.le_trans h.size hb.size, fun k hk hr => (hb.block k (Nat.lt_of_lt_of_le hk h.size)).trans (h.block k hk hr)⟩
theorem grown_of_below {w1 w2 : World} (hb : Below w1.heap.size w1 w2) : w1.grownBy w2 none := ⟨hb.os, hb.tape, hb.output, hb.size, fun k hk _ => hb.block k hk⟩

set_option maxRecDepth 100000 in
set_option maxHeartbeats 2000000 in
theorem writes_walk (N : Nat) (S : Int) (F : Bool) (vB vl : Value) (lB : List Int) (ls : List (List Int)) (w : World) (hN : N < 18446744073709551616) (hS0 : -9223372036854775808 ≤ S) (hS1 : S ≤ 9223372036854775807)
    (hB : Bs w vB lB) (hl : Ls w vl ls) (hmB : lB.length ≤ 1048576) (hml : ls.flatten.length ≤ 1048576) (hmn : ls.length ≤ 1048576) :
    Calls Try.prog 3 #[.agg #[.int .u64 N, .int .i64 S, .bool F, vB], vl] w fun e w' => e = .returned (.bool true) ∧ w.grownBy w' none := by
  obtain ⟨i0, hi, hz0, hz1, hz2⟩ := info_parts Try.info5
  have HN := hid hN
  have HS0 := hid hS0
  have HS1 := hid hS1
  have HB := hid hB
  have Hl := hid hl
  have HmB := hid hmB
  have Hml := hid hml
  obtain ⟨aoB, capB, rfl, -, -, -⟩ := hB
  obtain ⟨aol, capl, vs, rfl, -, -, -, -⟩ := hl
  clear hN hS0 hS1 hmB hml
  have HX := box_new w N S F (.slice aoB lB.length capB)
  have HBW := hid (HB.out.grown (World.grownBy_alloc w (.cells #[.int .u64 N, .int .i64 S, .bool F, .slice aoB lB.length capB] 25) none))
  have HLW := hid (Hl.out.grown (World.grownBy_alloc w (.cells #[.int .u64 N, .int .i64 S, .bool F, .slice aoB lB.length capB] 25) none))
  have hc3 := HX.2.2.2.1
  go_enter Try.func3, Try.ntmps3
  go_wp2_with (first
    | (at_builtin; refine wpList_append_bs rfl _ _ rfl (w.heap.size + 1) _ 0 [] rfl (World.ownsRow_nil _ _ _ _) _ lB rfl HBW.out (by have := HmB.out; omega) (by simp) ?_; intro v5 w5 hown5 hg5)
    | (at_builtin; refine wpList_append_own _ rfl _ _ 23 rfl (w.heap.size + 1) 5 i0 (.int .u8 0) 1 1 Try.underlying23 hi hz0 hz1 hz2 rfl (by decide) _ _ _ rfl (hown5.alloc _) ⟨_, 0, none⟩ 1 1 [.int .u8 119] rfl rfl (cell_one_new _ _ _) (one_one _ _) (by have := HmB.out; unfold maxLen; omega) (by have := HmB.out; omega) (by have := hg5.size; simp at this; simp; omega) ?_; intro v6 w6 hown6 hg6 hiff6; clear hiff6))
  have hO6 : w6.ownsRow (w.heap.size + 1) 5 1 v6 (lB ++ [119]).length (ub (lB ++ [119])) := by simpa [ub] using hown6
  have G5 : (w.alloc (.cells #[.int .u64 N, .int .i64 S, .bool F, .slice aoB lB.length capB] 25)).grownBy w5 none := hg5
  have hO5 : w5.ownsRow (w.alloc (.cells #[.int .u64 N, .int .i64 S, .bool F, .slice aoB lB.length capB] 25)).heap.size 5 1 v5 lB.length (ub lB) := by simpa using hown5
  have G6 := grown_step G5 hO5 hg6
  have HX6 := box_keep HX G6
  obtain ⟨W, hW⟩ : ∃ W, W = w.alloc (.cells #[.int .u64 N, .int .i64 S, .bool F, .slice aoB lB.length capB] 25) := ⟨_, rfl⟩
  obtain ⟨b0, hb0⟩ : ∃ b0, b0 = w.heap.size := ⟨_, rfl⟩
  rw [← hW] at HX6 HBW HLW G6
  rw [← hb0] at HX6
  have HGW := hid (show w.grownBy W none by rw [hW]; exact World.grownBy_alloc _ _ _)
  obtain ⟨ao6, cap6, rfl⟩ := owns_shape hO6
  have HO6 := hid hO6
  have HG6 := hid G6
  have hc6 : (lB ++ [119]).length ≤ cap6 := by obtain ⟨_, _, hv, hl, -⟩ := Bs.of_owns hO6; cases hv; exact hl
  have hc6I : (lB.length : Int) ≤ (cap6 : Int) := by simp at hc6; omega
  have hlBI : (lB.length : Int) ≤ 1048576 := by have := HmB.out; omega
  rw [show (0 + lB.length + 1) = (lB ++ [119]).length by simp] at *
  have Hb0 := hid hb0
  clear HX hc3 hown5 hown6 hg5 hg6 hO5 hO6 G5 G6 hW hc6
  rw [← hb0] at *
  clear hb0
  have HX6b := box_base HX6
  have HA6 := hid (bs_take (n := lB.length) (Bs.of_owns HO6.out) (by simp))
  rw [List.take_left] at HA6
  go_region_held3 (fun w' => Box w6 b0 N S F (.slice aoB lB.length capB) w')
    (first
      | exact box_keep HX6b (grownBy_drew _ _)
      | exact box_keep (by assumption) (by assumption))
    (first
      | (go_at_call 8; have _hh := hg7; refine (bytes_any _ _ lB (HA6.out.grown (box_of (by assumption))) (by have := HmB.out; omega)).mono ?_; rintro e w8 ⟨v8, rfl, hown8, hg8⟩; obtain ⟨ao8, cap8, rfl⟩ := owns_shape hown8)
      | (go_at_call 8; refine (bytes_any _ _ lB (HA6.out.grown (box_of (by assumption))) (by have := HmB.out; omega)).mono ?_; rintro e w7 ⟨v7, rfl, hown7, hg7⟩; obtain ⟨ao7, cap7, rfl⟩ := owns_shape hown7))
  have HX8 : Box w6 b0 N S F (.slice aoB lB.length capB) w8 := by assumption
  have HX8b := box_base HX8
  have HO7 := hid (show w7.ownsRow w6.heap.size 5 1 (.slice ao7 (byt lB).length cap7) (byt lB).length (ub (byt lB)) from hown7)
  have HO8 := hid hown8
  have HG7 := hid (grownBy_trans (grownBy_drew w6 none) hg7)
  have HG8 := hid hg8
  have HXX := hid HX6
  clear hown7 hown8 hg7 hg8 _hh HX6b HX6 HX8
  go_wp2_with fail
  go_region_held3 (fun w' => Box w8 b0 N S F (.slice aoB lB.length capB) w')
    (first
      | exact box_keep HX8b (grownBy_drew _ _)
      | exact box_keep (by assumption) (by assumption))
    (first
      | (go_at_call 9; have _hh := hg9; refine (number_any N _ HN.out).mono ?_; rintro e w10 ⟨v10, rfl, hown10, hg10⟩; obtain ⟨ao10, cap10, rfl⟩ := owns_shape hown10)
      | (go_at_call 9; refine (number_any N _ HN.out).mono ?_; rintro e w9 ⟨v9, rfl, hown9, hg9⟩; obtain ⟨ao9, cap9, rfl⟩ := owns_shape hown9))
  have HX10 : Box w8 b0 N S F (.slice aoB lB.length capB) w10 := by assumption
  have HX10b := box_base HX10
  have HO9 := hid (show w9.ownsRow w8.heap.size 5 1 (.slice ao9 (num N).length cap9) (num N).length (ub (num N)) from hown9)
  have HO10 := hid hown10
  have HG9 := hid (grownBy_trans (grownBy_drew w8 none) hg9)
  have HG10 := hid hg10
  have HHX := hid HX10b
  have HLW10 := hid (HLW.out.grown (grownBy_trans (grownBy_trans (grownBy_trans (grownBy_trans HG6.out HG7.out) HG8.out) HG9.out) HG10.out))
  clear hown9 hown10 hg9 hg10 _hh HX8b HX10 HX10b HLW
  obtain ⟨FL, hFL⟩ : ∃ FL, FL = ls.flatten := ⟨_, rfl⟩
  have HFL := hid hFL
  rw [← hFL] at Hml
  clear hFL
  have hmnI : (ls.length : Int) ≤ 1048576 := by omega
  go_wp2_with fail
  go_loopw [10, 11] (fun a i wr => ∃ k : Nat, k ≤ ls.length ∧ i = .int .i64 k ∧ wr.ownsRow w10.heap.size 5 1 a (ls.take k).flatten.length (ub (ls.take k).flatten) ∧ w10.grownBy wr none)
    (fun _ i _ => ls.length - (intOf i).toNat)
  case atStart => exact ⟨0, Nat.zero_le _, rfl, World.ownsRow_nil _ _ _ _, World.grownBy.refl _ _⟩
  case round =>
    obtain ⟨k, hk, rfl, hown, hg⟩ := hrel
    by_cases hlt : k < ls.length
    · obtain ⟨b, off, vk, rfl, hck, hbk, hlc, -⟩ := (HLW10.out.grown hg).at hlt
      have HS := hid (flat_snoc ls k hlt)
      have HF := hid (show (ls.take k).flatten.length + (ls.getD k []).length ≤ 1048576 by
        have h1 := flat_le ls (k + 1)
        rw [HS.out, List.length_append, ← HFL.out] at h1
        have := Hml.out
        omega)
      obtain ⟨lk, hlk⟩ : ∃ lk, lk = ls.getD k [] := ⟨_, rfl⟩
      rw [← hlk] at hbk HS HF
      have HBK := hid hbk
      obtain ⟨aok, capk, rfl, -, -, -⟩ := hbk
      clear hlk
      have hlt' : (k : Int) < (ls.length : Int) := by omega
      go_wp2_with (at_builtin; refine wpList_append_bs rfl _ _ rfl w10.heap.size _ _ _ rfl hown _ lk rfl HBK.out (by have := HF.out; omega) hg.size ?_)
      intro v' w1 hown' hgrow
      have hg' := hid (grown_same hg hown hgrow)
      have HO' := hid hown'
      clear hown hg hgrow hown'
      go_wp2
      go_roundw
      case rel => exact ⟨k + 1, by omega, by go_num, by rw [HS.out]; simpa [ub] using HO'.out, hg'.out⟩
      case measure => simp [intOf]; omega
    · have hke : k = ls.length := by omega
      have hlt' : ¬ (k : Int) < (ls.length : Int) := by omega
      subst hke
      rw [List.take_length, ← HFL.out] at hown
      obtain ⟨ao11, cap11, rfl⟩ := owns_shape hown
      obtain ⟨w11, hw11⟩ : ∃ w11, w11 = wr := ⟨_, rfl⟩
      subst hw11
      have HO11 := hid hown
      have HG11 := hid hg
      have HL11 := hid (HLW10.out.grown hg)
      clear hown hg HLW10
      go_wp2_with fail
      refine (join_any _ _ ls HL11.out (by rw [← HFL.out]; have := Hml.out; omega) (by omega)).mono ?_
      rw [← HFL.out]
      rintro e w12 ⟨v12, rfl, hown12, hg12⟩
      obtain ⟨ao12, cap12, rfl⟩ := owns_shape hown12
      have HO12 := hid hown12
      have HG12 := hid hg12
      have HX12 := box_base (box_keep HHX.out (grownBy_trans HG11.out hg12))
      clear hown12 hg12 HL11
      have B7 := hid (owns_bs HO7.out (grownBy_trans (grownBy_trans (grownBy_trans (grownBy_trans HG8.out HG9.out) HG10.out) HG11.out) HG12.out))
      have B9 := hid (owns_bs HO9.out (grownBy_trans (grownBy_trans HG10.out HG11.out) HG12.out))
      have B11 := hid (owns_bs HO11.out HG12.out)
      have B12 := hid (Bs.of_owns HO12.out)
      have BB := hid (HBW.out.grown (grownBy_trans (grownBy_trans (grownBy_trans (grownBy_trans (grownBy_trans (grownBy_trans HG6.out HG7.out) HG8.out) HG9.out) HG10.out) HG11.out) HG12.out))
      have HK : Hid (∀ w', Box w12 b0 N S F (.slice aoB lB.length capB) w' → Box w12 b0 N S F (.slice aoB lB.length capB) w' ∧ Cv w' (.slice ao7 (byt lB).length cap7) (byt lB) ∧ Cv w' (.slice ao9 (num N).length cap9) (num N) ∧ Cv w' (.slice ao11 FL.length cap11) FL ∧ Cv w' (.slice ao12 FL.length cap12) FL) :=
        fun w' hb => ⟨hb, conv_bs (B7.out.grown (box_of hb)), conv_bs (B9.out.grown (box_of hb)), conv_bs (B11.out.grown (box_of hb)), conv_bs (B12.out.grown (box_of hb))⟩
      go_wp2_with fail
      go_cut [96] (fun s wc => s = .bool false ∧ Hid (w12.grownBy wc none))
      case first =>
        rename_i J K1 hJ hK1
        have HJ := hid hJ
        clear hJ
        clear HO6 HO7 HO8 HO9 HO10 HO11 HO12 HG6 HG7 HG8 HG9 HG10 HG11 HG12 B7 B9 B11 B12 HA6 HBW HB Hl HHX HFL Hml HGW hi hz0 hz1 hz2 hk hlt hlt' hc6I hlBI hmn hmnI Hb0
        refine wp_region_noPanic ?_
        go_region_held (fun w' => Box w12 b0 N S F (.slice aoB lB.length capB) w' ∧ Cv w' (.slice ao7 (byt lB).length cap7) (byt lB) ∧ Cv w' (.slice ao9 (num N).length cap9) (num N) ∧ Cv w' (.slice ao11 FL.length cap11) FL ∧ Cv w' (.slice ao12 FL.length cap12) FL)
          (first
            | exact HK.out _ (box_keep HX12 (grownBy_drew _ _))
            | exact HK.out _ (box_keep (And.left (by assumption)) (by assumption))
            | assumption)
          (first
            | (go_at_call 11; refine (rbytes_any _ _ lB (BB.out.grown (box_of (And.left (by assumption)))) (by have := HmB.out; omega)).mono ?_; rintro e w20 ⟨v20, rfl, hown20, hg20⟩; have c20 := conv_bs (Bs.of_owns hown20))
            | (go_at_call 12; refine (rnumber_any N _ HN.out).mono ?_; rintro e w21 ⟨v21, rfl, hown21, hg21⟩; have c21 := conv_bs (Bs.of_owns hown21))
            | (go_at_call 13; refine (signed_any S _ HS0.out HS1.out).mono ?_; rintro e w22 ⟨v22, rfl, hown22, hg22⟩; have c22 := conv_bs (Bs.of_owns hown22))
            | (go_at_call 14; refine (rsigned_any S _ HS0.out HS1.out).mono ?_; rintro e w23 ⟨v23, rfl, hown23, hg23⟩; have c23 := conv_bs (Bs.of_owns hown23); have c22' := conv_bs (owns_bs hown22 hg23))
            | (go_at_call 15; refine (flag_any F _).mono ?_; rintro e w24 ⟨v24, rfl, hown24, hg24⟩; have c24 := conv_bs (Bs.of_owns hown24))
            | (go_at_call 16; refine (rflag_any F _).mono ?_; rintro e w25 ⟨v25, rfl, hown25, hg25⟩; have c25 := conv_bs (Bs.of_owns hown25); have c24' := conv_bs (owns_bs hown24 hg25)))
        all_goals
          have hfin := box_of (And.left (show Box w12 b0 N S F (.slice aoB lB.length capB) w25 ∧ _ by assumption))
          go_wp2_with fail
          refine hK1 _ _ (Met.intro (HJ.out _ _ ?_))
          (repeat apply Exists.intro)
          exact ⟨⟨rfl, hid hfin⟩, rfl⟩
      case rest =>
        obtain ⟨rfl, hgc⟩ := hcut
        have GC := hid hgc.out
        clear hgc
        have S6 := HO6.out.lt
        have S7 := HO7.out.lt
        have S8 := HO8.out.lt
        have S9 := HO9.out.lt
        have S10 := HO10.out.lt
        have S11 := HO11.out.lt
        have S12 := HO12.out.lt
        have z6 := HG6.out.size
        have z7 := HG7.out.size
        have z8 := HG8.out.size
        have z9 := HG9.out.size
        have z10 := HG10.out.size
        have z11 := HG11.out.size
        have z12 := HG12.out.size
        have zc := GC.out.size
        have A79 := hid (rows_apart S7 S9 (by omega))
        have A712 := hid (rows_apart S7 S12 (by omega))
        have A912 := hid (rows_apart S9 S12 (by omega))
        have A78 := hid (rows_apart S7 S8 (by omega))
        have A710 := hid (rows_apart S7 S10 (by omega))
        have A711 := hid (rows_apart S7 S11 (by omega))
        have A89 := hid (rows_apart S8 S9 (by omega))
        have A910 := hid (rows_apart S9 S10 (by omega))
        have A911 := hid (rows_apart S9 S11 (by omega))
        have A812 := hid (rows_apart S8 S12 (by omega))
        have A1012 := hid (rows_apart S10 S12 (by omega))
        have A1112 := hid (rows_apart S11 S12 (by omega))
        have A78' := hid (rows_apart' S7 S8 (by omega))
        have A710' := hid (rows_apart' S7 S10 (by omega))
        have A711' := hid (rows_apart' S7 S11 (by omega))
        have A910' := hid (rows_apart' S9 S10 (by omega))
        have A911' := hid (rows_apart' S9 S11 (by omega))
        have A79' := hid (rows_apart' S7 S9 (by omega))
        have A712' := hid (rows_apart' S7 S12 (by omega))
        have A912' := hid (rows_apart' S9 S12 (by omega))
        have Z := hid (show (∀ k, (Value.slice ao7 (byt lB).length cap7).ownBlock = some k → w6.heap.size ≤ k) ∧ (∀ k, (Value.slice ao9 (num N).length cap9).ownBlock = some k → w6.heap.size ≤ k) ∧ (∀ k, (Value.slice ao12 FL.length cap12).ownBlock = some k → w6.heap.size ≤ k) from
          ⟨fun k hk => by have := S7 k hk; omega, fun k hk => by have := S9 k hk; omega, fun k hk => by have := S12 k hk; omega⟩)
        have ZB := hid (show w6.heap.size ≤ wc.heap.size ∧ w8.heap.size ≤ wc.heap.size ∧ w11.heap.size ≤ wc.heap.size by omega)
        have S6' := hid (fun k hk => (S6 k hk).2)
        clear S6 S7 S8 S9 S10 S11 S12 z6 z7 z8 z9 z10 z11 z12 zc
        have G6c := hid (grownBy_trans (grownBy_trans (grownBy_trans (grownBy_trans (grownBy_trans (grownBy_trans HG7.out HG8.out) HG9.out) HG10.out) HG11.out) HG12.out) GC.out)
        have OC7 := hid (HO7.out.kept (grownBy_trans (grownBy_trans (grownBy_trans (grownBy_trans (grownBy_trans HG8.out HG9.out) HG10.out) HG11.out) HG12.out) GC.out) (by cases (Value.slice ao7 (byt lB).length cap7).ownBlock <;> simp))
        have OC9 := hid (HO9.out.kept (grownBy_trans (grownBy_trans (grownBy_trans HG10.out HG11.out) HG12.out) GC.out) (by cases (Value.slice ao9 (num N).length cap9).ownBlock <;> simp))
        have OC12 := hid (HO12.out.kept GC.out (by cases (Value.slice ao12 FL.length cap12).ownBlock <;> simp))
        have C8 := hid (owns_bs HO8.out (grownBy_trans (grownBy_trans (grownBy_trans (grownBy_trans HG9.out HG10.out) HG11.out) HG12.out) GC.out))
        have C10 := hid (owns_bs HO10.out (grownBy_trans (grownBy_trans HG11.out HG12.out) GC.out))
        have C11 := hid (owns_bs HO11.out (grownBy_trans HG12.out GC.out))
        clear B7 B9 B11 B12 BB HK HX12 HO7 HO8 HO9 HO10 HO11 HO12 HG7 HG8 HG9 HG10 HG11 HG12 GC HHX
        go_wp2_with fail
        refine (spoil_any _ _ _ _ _ OC7.out (by have := num_le lB.length; have := HmB.out; simp [byt]; omega) ZB.out.1).mono ?_
        rintro e wd ⟨rfl, hgd⟩
        have HGD := hid hgd
        clear hgd
        go_wp2_with fail
        refine (spoil_any _ _ _ _ _ (OC9.out.kept HGD.out (kept_of A79'.out)) (by have := num_le N; omega) (Nat.le_trans ZB.out.2.1 HGD.out.size)).mono ?_
        rintro e we ⟨rfl, hge⟩
        have HGE := hid hge
        clear hge
        go_wp2_with fail
        refine (spoil_any _ _ _ _ _ ((OC12.out.kept HGD.out (kept_of A712'.out)).kept HGE.out (kept_of A912'.out)) (by have := Hml.out; omega) (Nat.le_trans (Nat.le_trans ZB.out.2.2 HGD.out.size) HGE.out.size)).mono ?_
        rintro e wf ⟨rfl, hgf⟩
        have F8 := hid (((C8.out.row HGD.out A78'.out).row HGE.out A89.out).row hgf A812.out)
        have F10 := hid (((C10.out.row HGD.out A710'.out).row HGE.out A910'.out).row hgf A1012.out)
        have F11 := hid (((C11.out.row HGD.out A711'.out).row HGE.out A911'.out).row hgf A1112.out)
        have BL := hid (below_past (below_past (below_past (Below.refl w6.heap.size w6 |>.grown G6c.out (Nat.le_refl _) (by simp)) HGD.out (Nat.le_refl _) Z.out.1) HGE.out (Nat.le_refl _) Z.out.2.1) hgf (Nat.le_refl _) Z.out.2.2)
        have F6 := hid ((Bs.of_owns HO6.out).below BL.out S6'.out)
        have FX := hid (box_base (box_keep HXX.out (grown_of_below BL.out)))
        have GF := hid (grown_below (grownBy_trans HGW.out HG6.out) BL.out)
        have FB := hid (HB.out.grown GF.out)
        have FLs := hid (Hl.out.grown GF.out)
        clear hgf HGD HGE OC7 OC9 OC12 C8 C10 C11 A79 A712 A912 A78 A710 A711 A89 A910 A911 A812 A1012 A1112 A78' A710' A711' A910' A911' A79' A712' A912' Z ZB S6' G6c HO6 HXX HGW HG6 HBW HB Hl BL
        go_wp2_with fail
        go_loopw [13, 14] (fun i k wr => ∃ j nd : Nat, j ≤ ls.length ∧ i = .int .i64 j ∧ k = .int .i64 ((ls.take j).flatten.length : Nat) ∧ wr = wf.drewN nd)
          (fun i _ _ => ls.length - (intOf i).toNat)
        case atStart => exact ⟨0, 0, Nat.zero_le _, rfl, rfl, rfl⟩
        case round =>
          obtain ⟨j, nd, hj, rfl, rfl, rfl⟩ := hrel
          by_cases hjl : j < ls.length
          · obtain ⟨b, off, vk, rfl, hck, hbk, hlc, -⟩ := FLs.out.at hjl
            have HS := hid (flat_snoc ls j hjl)
            have hle := flat_le ls (j + 1)
            rw [HS.out, List.length_append, ← HFL.out] at hle
            have hsub := hid (flat_mid ls j hjl)
            rw [← HFL.out] at hsub
            obtain ⟨lk, hlk⟩ : ∃ lk, lk = ls.getD j [] := ⟨_, rfl⟩
            obtain ⟨K0, hK0⟩ : ∃ K0 : Nat, K0 = (ls.take j).flatten.length := ⟨_, rfl⟩
            have HK0 := hid hK0
            rw [← hlk] at hbk HS hle hsub
            rw [← hK0] at hle hsub ⊢
            have hcap : FL.length ≤ cap11 := by obtain ⟨_, _, hv, hl, -⟩ := F11.out; cases hv; exact hl
            have hj' : (j : Int) < (ls.length : Int) := by omega
            have hKI : (K0 : Int) + (lk.length : Int) ≤ (cap11 : Int) := by omega
            have hKb : (K0 : Int) + (lk.length : Int) ≤ 1048576 := by have := Hml.out; omega
            have HBK := hid hbk
            obtain ⟨aok, capk, rfl, -, -, -⟩ := hbk
            clear hlk hK0
            have hcv1 : ∀ n, Cv (wf.drewN n) (.slice aok lk.length capk) lk := fun n => conv_bs (HBK.out.grown (grownBy_drewN _ _))
            by_cases hcK : cap11 = K0
            · have hlk0 := hid (show lk.length = 0 by omega)
              have hcT : (cap11 = K0) = True := eq_true hcK
              have hcv2 : ∀ n, Cv (wf.drewN n) (.slice ao11 lk.length (cap11 - K0)) lk := fun n => conv_bs ⟨ao11, cap11 - K0, rfl, by have := hlk0.out; omega, fun _ => by omega, fun h => absurd (List.eq_nil_of_length_eq_zero hlk0.out) h⟩
              clear hcK
              go_wp2_with fail
              go_quiet (fail)
              go_wp2
              go_roundw
              case rel => exact ⟨j + 1, _, by omega, by go_num, congrArg (Value.int .i64) (by rw [HS.out, List.length_append, ← HK0.out]; omega), rfl⟩
              case measure => simp [intOf]; omega
            · obtain ⟨a11, rfl⟩ : ∃ a, ao11 = some a := by
                cases ao11 with
                | none => obtain ⟨_, _, hv, hl, hn, -⟩ := F11.out; cases hv; have := hn rfl; omega
                | some a => exact ⟨a, rfl⟩
              have hcv2 : ∀ n, Cv (wf.drewN n) (.slice (some (a11.add K0)) lk.length (cap11 - K0)) lk := fun n => by
                have h1 := bs_mid F11.out (show K0 + lk.length ≤ FL.length by omega)
                rw [hsub.out] at h1
                exact conv_bs (h1.grown (grownBy_drewN _ _))
              go_wp2_with fail
              go_quiet (fail)
              go_wp2
              go_roundw
              case rel => exact ⟨j + 1, _, by omega, by go_num, congrArg (Value.int .i64) (by rw [HS.out, List.length_append, ← HK0.out]; omega), rfl⟩
              case measure => simp [intOf]; omega
          · have hje : j = ls.length := by omega
            have hj' : ¬ (j : Int) < (ls.length : Int) := by omega
            have FXd := hid (box_base (box_keep FX.out (grownBy_drewN wf nd)))
            have GG := hid (grownBy_trans GF.out (grownBy_drewN wf nd))
            have E8 := hid (F8.out.grown (grownBy_drewN wf nd))
            have E10 := hid (F10.out.grown (grownBy_drewN wf nd))
            have E6 := hid (F6.out.grown (grownBy_drewN wf nd))
            have EB := hid (FB.out.grown (grownBy_drewN wf nd))
            obtain ⟨wg, hwg⟩ : ∃ wg, wg = wf.drewN nd := ⟨_, rfl⟩
            rw [← hwg] at FXd GG E8 E10 E6 EB ⊢
            clear hwg FX F8 F10 F6 FB FLs F11 hje
            have HK2 : Hid (∀ w', Box wg b0 N S F (.slice aoB lB.length capB) w' → Box wg b0 N S F (.slice aoB lB.length capB) w' ∧ Cv w' (.slice ao8 (byt lB).length cap8) (byt lB) ∧ Cv w' (.slice ao10 (num N).length cap10) (num N) ∧ Cv w' (.slice ao6 (lB.length + 1) cap6) (lB ++ [119]) ∧ Cv w' (.slice aoB lB.length capB) lB) :=
              fun w' hb => ⟨hb, conv_bs (E8.out.grown (box_of hb)), conv_bs (E10.out.grown (box_of hb)), conv_bs (by have := E6.out.grown (box_of hb); simpa using this), conv_bs (EB.out.grown (box_of hb))⟩
            have hX := FXd.out
            go_wp2_with fail
            clear E8 E10 E6 hj' hj hjl hmnI hmn hlBI hc6I hi hz0 hz1 hz2 HS0 HS1 HA6 hk hlt HFL Hml
            have hadd : ∀ w' : World, (Op.stringOp .add (strOfNums lB) ⟨#[119]⟩).run Try.prog w' = .ok (.string (strOfNums (lB ++ [119]))) w' := fun w' => by
              rw [run_string_add_sum w' _ _ (by rw [strOfNums_size]; have := HmB.out; show lB.length + 1 ≤ _; omega), sn_snoc]
            have hszN : ¬ (9223372036854775807 < (strOfNums lB).size + 1) := by rw [strOfNums_size]; have := HmB.out; omega
            have hcat := sn_snoc lB
            refine wp_region_noPanic ?_
            go_region_held (fun w' => Box wg b0 N S F (.slice aoB lB.length capB) w' ∧ Cv w' (.slice ao8 (byt lB).length cap8) (byt lB) ∧ Cv w' (.slice ao10 (num N).length cap10) (num N) ∧ Cv w' (.slice ao6 (lB.length + 1) cap6) (lB ++ [119]) ∧ Cv w' (.slice aoB lB.length capB) lB)
              (first
                | exact HK2.out _ (box_keep hX (grownBy_drew _ _))
                | exact HK2.out _ (box_keep (And.left (by assumption)) (by assumption))
                | assumption)
              (first
                | (go_at_call 11; refine (rbytes_any _ _ lB (EB.out.grown (box_of (And.left (by assumption)))) (by have := HmB.out; omega)).mono ?_; rintro e w20 ⟨v20, rfl, hown20, hg20⟩; have c20 := conv_bs (Bs.of_owns hown20))
                | (go_at_call 12; refine (rnumber_any N _ HN.out).mono ?_; rintro e w21 ⟨v21, rfl, hown21, hg21⟩; have c21 := conv_bs (Bs.of_owns hown21))
                | (go_at_call 18; refine (known_any _).mono ?_; rintro e w22 ⟨rfl, hg22⟩))
            have hfin := box_of (And.left (show Box wg b0 N S F (.slice aoB lB.length capB) w22 ∧ _ by assumption))
            refine NoPanic.normal ?_
            go_wp2
            go_ret
            exact ⟨rfl, grownBy_trans GG.out hfin⟩
end Go.Proofs.Ytnnjfhgdimcieaa
