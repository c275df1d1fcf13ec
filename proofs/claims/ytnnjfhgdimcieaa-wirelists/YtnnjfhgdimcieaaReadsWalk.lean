/- The walk of metronomelaw01.WireReads. -/
import Derived.Test.YtnnjfhgdimcieaaStepMore
import Derived.Laws.AppendOwnNone
import Derived.WideShapes
namespace Go.Proofs.Ytnnjfhgdimcieaa
open Go.RowKit
set_option linter.unusedVariables false

theorem rbytes_le {most : Int} {l d r : List Int} (h : rbytes most l = .ok (d, r)) (hb : Byt l) : d.length ≤ l.length := by
  unfold rbytes at h
  split at h
  · cases h
  · rename_i n r0 he
    obtain ⟨-, -, hn⟩ := rcnt_ok he
    have hs := (rnum_shorter hb hn).1
    split at h
    · cases h
    · simp only [Except.ok.injEq, Prod.mk.injEq] at h
      rw [← h.1]
      simp
      omega

theorem kind_cases (k : Int) : k = 1 ∨ k = 2 ∨ k = 3 ∨ k = 4 ∨ k = 5 ∨ ((k == 1) = false ∧ (k == 2) = false ∧ (k == 3) = false ∧ (k == 4) = false ∧ (k == 5) = false) := by
  simp only [beq_eq_false_iff_ne, ne_eq]
  omega

theorem step_any (w : World) (rb db : Nat) (v vb : Value) (at0 : Nat) (b : List Int) (hr : Rd w rb v (b.drop at0)) (hf : Rf w db vb at0 b) (hby : Byt b) (hm : b.length ≤ 1048576) (hne : rb ≠ db) (hvd : v.ownBlock ≠ some db) (hbr : vb.ownBlock ≠ some rb) (hvl : ∀ k, v.ownBlock = some k → k < w.heap.size) (hbl : ∀ k, vb.ownBlock = some k → k < w.heap.size) (kind most : Int) (h1 : most ≤ 9223372036854775807) :
    Calls Try.prog 20 #[.pointer (some ⟨rb, 0, none⟩), .pointer (some ⟨db, 0, none⟩), .agg #[.int .i64 kind, .int .i64 most]] w fun e w' => Left2 w w' rb db v vb b e := by
  rcases kind_cases kind with rfl | rfl | rfl | rfl | rfl | ⟨k1, k2, k3, k4, k5⟩
  · exact step_number w rb db v vb at0 b hr hf hby hm hne hvd hbr hvl hbl most
  · exact step_signed w rb db v vb at0 b hr hf hby hm hne hvd hbr hvl hbl most
  · exact step_flag w rb db v vb at0 b hr hf hby hm hne hvd hbr hvl hbl most
  · by_cases h0 : most < 0
    · exact step_bytes_neg w rb db v vb at0 b hr hf hby hm hne hvd hbr hvl hbl most h0
    · cases hq : rbytes most (b.drop at0) with
      | error e => exact step_bytes_err w rb db v vb at0 b hr hf hby hm hne hvd hbr hvl hbl most (by omega) h1 e hq
      | ok p =>
        obtain ⟨d, r⟩ := p
        refine step_bytes_ok w rb db v vb at0 b hr hf hby hm hne hvd hbr hvl hbl most (by omega) h1 d r hq ?_
        have := rbytes_le hq (fun x hx => hby x (List.mem_of_mem_drop hx))
        rw [List.length_drop] at this
        omega
  · by_cases h0 : most < 0
    · exact step_take_neg w rb db v vb at0 b hr hf hby hm hne hvd hbr hvl hbl most h0
    · cases hq : rtake most (b.drop at0) with
      | error e => exact step_take_err w rb db v vb at0 b hr hf hby hm hne hvd hbr hvl hbl most (by omega) h1 e hq
      | ok p =>
        obtain ⟨xs, r⟩ := p
        exact step_take_ok w rb db v vb at0 b hr hf hby hm hne hvd hbr hvl hbl most (by omega) h1 xs r hq
  · exact step_other w rb db v vb at0 b hr hf hby hm hne hvd hbr hvl hbl most kind k1 k2 k3 k4 k5

set_option maxRecDepth 100000 in
theorem end_any (w : World) (rb : Nat) (v : Value) (l : List Int) (h : Rd w rb v l) (hm : l.length ≤ 1048576) :
    Calls Try.prog 24 #[.pointer (some ⟨rb, 0, none⟩)] w fun e w' => e = .returned (.int .i64 (if l.length = 0 then 0 else 4)) ∧ w' = w := by
  obtain ⟨ao, cap, rfl⟩ := h.shape
  have hc0 := cell_two0 h.1
  have hc1 := cell_two1 h.1
  obtain ⟨L, hL⟩ : ∃ L, L = l.length := ⟨_, rfl⟩
  rw [← hL] at hc0 ⊢
  clear h hL
  by_cases h0 : L = 0
  · subst h0
    simp only [if_true]
    go_enter Try.func24, Try.ntmps24
    go_wp2
    go_ret
    exact ⟨rfl, rfl⟩
  · rw [if_neg h0]
    have hp : (0 : Int) < (L : Int) := by omega
    go_enter Try.func24, Try.ntmps24
    go_wp2
    go_ret
    exact ⟨rfl, rfl⟩

/-- A script of calls in memory: kinds and bounds. -/
def Sc (w : World) (V : Value) (n : Nat) (S : Nat → Int × Int) : Prop :=
  ∃ ao cap, V = .slice ao n cap ∧ n ≤ cap ∧ (0 < n → ∃ b off, ao = some ⟨b, off, none⟩ ∧ ∀ i, i < n → w.cell? ⟨b, off + i * 2, none⟩ = some (.int .i64 (S i).1) ∧ w.cell? ⟨b, off + i * 2 + 1, none⟩ = some (.int .i64 (S i).2)) ∧ ∀ i, i < n → (S i).2 ≤ 9223372036854775807
theorem Sc.shape {w : World} {V : Value} {n : Nat} {S : Nat → Int × Int} (h : Sc w V n S) : ∃ ao cap, V = .slice ao n cap := by
  obtain ⟨ao, cap, rfl, -⟩ := h
  exact ⟨ao, cap, rfl⟩
theorem Sc.at {w : World} {ao : Option Addr} {cap n : Nat} {S : Nat → Int × Int} (h : Sc w (.slice ao n cap) n S) {i : Nat} (hi : i < n) : ∃ b off, ao = some ⟨b, off, none⟩ ∧ n ≤ cap ∧
    w.cell? ⟨b, off + i * 2, none⟩ = some (.int .i64 (S i).1) ∧ w.cell? ⟨b, off + i * 2 + 1, none⟩ = some (.int .i64 (S i).2) ∧ (S i).2 ≤ 9223372036854775807 := by
  obtain ⟨ao', cap', hv, hn, hc, hb⟩ := h
  simp only [Value.slice.injEq, true_and] at hv
  obtain ⟨rfl, rfl⟩ := hv
  obtain ⟨b, off, rfl, hcell⟩ := hc (by omega)
  exact ⟨b, off, rfl, hn, (hcell i hi).1, (hcell i hi).2, hb i hi⟩
theorem Sc.keep {w w' : World} {V : Value} {n : Nat} {S : Nat → Int × Int} (h : Sc w V n S) (hk : w.grownBy w' none) : Sc w' V n S := by
  obtain ⟨ao, cap, rfl, hn, hc, hf⟩ := h
  refine ⟨ao, cap, rfl, hn, fun h0 => ?_, hf⟩
  obtain ⟨b, off, rfl, hcell⟩ := hc h0
  exact ⟨b, off, rfl, fun i hi => ⟨cell_grown hk (hcell i hi).1 (by simp), cell_grown hk (hcell i hi).2 (by simp)⟩⟩
theorem Kp.grown {w w' : World} (h : Kp w w' []) : w.grownBy w' none := ⟨h.os, h.tape, h.output, h.size, fun k hk _ => h.block k hk (by simp)⟩

/-- An append onto what the call owns, of bytes that are read, wherever they lie. -/
theorem wpList_append_bytes {w : World} {ops : Array Oper} {rest : List Oper} {o : Oper} {a : Act} {Q : Exit → Act → World → Prop} (hgd : o.guard = none) (s x : Operand)
    (ho : o.op = .call { callee := .builtin .append, args := #[s, x], argTypes := #[23, 23] })
    (base : Nat) (v : Value) (n : Nat) (xs : List Value) (hs : a.eval s = v) (hown : w.ownsRow base 5 1 v n xs)
    (vx : Value) (l : List Int) (hx : a.eval x = vx) (hb : Bs w vx l) (hm : n + l.length ≤ 140737488355328) (hbase : base ≤ w.heap.size)
    (h : ∀ v' w', w'.ownsRow base 5 1 v' (n + l.length) (xs ++ ub l) → w.grownBy w' v.ownBlock → wpList Try.prog ops Q rest (a.put o.dst v') w') : wpList Try.prog ops Q (o :: rest) a w := by
  obtain ⟨i0, hi, hz0, hz1, hz2⟩ := info_parts Try.info5
  have hb' := hb
  obtain ⟨ao, cap, rfl, hl, hn, -⟩ := hb
  cases ao with
  | none =>
    obtain rfl : cap = 0 := hn rfl
    have hl0 : l = [] := List.eq_nil_of_length_eq_zero (by omega)
    subst hl0
    refine wpList_append_own_none hgd s x 23 ho base 5 i0 1 Try.underlying23 hi v n xs hs hown hx ?_
    exact h v w (by simpa [ub] using hown) (World.grownBy.refl _ _)
  | some ad =>
    exact wpList_append_own w hgd s x 23 ho base 5 i0 (.int .u8 0) 1 1 Try.underlying23 hi hz0 hz1 hz2 rfl (by decide) v n xs hs hown ad l.length cap (ub l) hx (by simp [ub]) (hb'.cells rfl fun _ _ => rfl) (ub_one l) (by unfold maxLen; omega) (by omega) hbase fun v' w' a1 a2 _ => h v' w' a1 a2

theorem sn_snoc165 (l : List Int) : strOfNums l ++ ⟨#[165]⟩ = strOfNums (l ++ [165]) := by
  apply Go.WideShapes.bytes_inj
  rw [strOfNums_data, ByteArray.data_append, Array.toList_append, strOfNums_data, List.map_append]
  rfl

theorem own_some {w : World} {base n M k : Nat} {v : Value} {xs : List Value} (h : w.ownsRow base 5 1 v n xs) (hM : M = n) (hk : k + 1 = n) : ∃ g cap, v = .slice (some ⟨g, 0, none⟩) M cap ∧ base ≤ g ∧ g < w.heap.size ∧ (k : Int) ≤ (cap : Int) := by
  rcases h.2 with ⟨-, h0⟩ | ⟨g, cap, cur, hv, hb, hg, hnc, hcm, hcs, ht⟩
  · omega
  · exact ⟨g, cap, by rw [hv, hM], hb, lt_of_block hg, by omega⟩

set_option maxRecDepth 100000 in
set_option maxHeartbeats 4000000 in
theorem reads_walk (w : World) (vb : Value) (b : List Int) (V : Value) (N : Nat) (S : Nat → Int × Int) (hb : Bs w vb b) (hby : Byt b) (hm : b.length ≤ 1048576) (hbl : ∀ k, vb.ownBlock = some k → k < w.heap.size) (hV : Sc w V N S) (hN : N ≤ 9223372036854775807) :
    Calls Try.prog 4 #[vb, V] w fun e w' => e = .returned (.bool true) ∧ w.grownBy w' none := by
  obtain ⟨i0, hi, hz0, hz1, hz2⟩ := info_parts Try.info5
  have HBb := hid hb
  have Hby := hid hby
  have Hm := hid hm
  have HBL := hid hbl
  have HV := hid hV
  obtain ⟨aob, capb, rfl, -, -, -⟩ := hb
  obtain ⟨ao, cap, rfl⟩ := hV.shape
  obtain ⟨M, hM⟩ : ∃ M, M = 0 + b.length + 1 := ⟨_, rfl⟩
  have HM0 := hid hM
  clear hby hm hbl hV hM
  go_enter Try.func4, Try.ntmps4
  go_wp2_with (first
    | (at_builtin; refine wpList_append_bytes rfl _ _ rfl w.heap.size _ 0 [] rfl (World.ownsRow_nil _ _ _ _) _ b rfl HBb.out (by have := Hm.out; omega) (by simp) ?_; intro v5 w5 hown5 hg5)
    | (at_builtin; refine wpList_append_own _ rfl _ _ 23 rfl w.heap.size 5 i0 (.int .u8 0) 1 1 Try.underlying23 hi hz0 hz1 hz2 rfl (by decide) _ _ _ rfl (hown5.alloc _) ⟨_, 0, none⟩ 1 1 [.int .u8 165] rfl rfl (cell_one_new _ _ _) (one_one _ _) (by have := Hm.out; unfold maxLen; omega) (by have := Hm.out; omega) (Nat.le_trans hg5.size (by simp)) ?_; intro v6 w6 hown6 hg6 hiff6; clear hiff6; obtain ⟨g, cap6, rfl, hgl, hglt, hcI⟩ := own_some hown6 HM0.out (k := b.length) (by omega)))
  have hML : (b ++ [165]).length = M := by rw [HM0.out]; simp
  have hO6' : w6.ownsRow w.heap.size 5 1 (.slice (some ⟨g, 0, none⟩) M cap6) M (ub (b ++ [165])) := by
    have h := hown6
    rw [← HM0.out] at h
    simpa [ub] using h
  have hO6 : w6.ownsRow w.heap.size 5 1 (.slice (some ⟨g, 0, none⟩) M cap6) (b ++ [165]).length (ub (b ++ [165])) := by rw [hML]; exact hO6'
  have G5 : w.grownBy w5 none := hg5
  have hO5 : w5.ownsRow w.heap.size 5 1 v5 b.length (ub b) := by simpa using hown5
  have G6 := grown_step G5 hO5 hg6
  have HD6 := hid (HBb.out.grown G6)
  have HN6 := hid (show Bs w6 (.slice (some ⟨g, 0, none⟩) (b ++ [165]).length cap6) (b ++ [165]) by rw [hML]; have := Bs.of_owns (l := b ++ [165]) hO6; exact this)
  have HOW := hid hO6'
  have HBH := hid (show Bs w6 (.slice (some ⟨g, 0, none⟩) b.length cap6) b by have := bs_take (n := b.length) HN6.out (by simp); rw [List.take_left] at this; exact this)
  have HM := hid (show M = b.length + 1 by rw [HM0.out]; omega)
  have HML := hid hML
  have HG6 := hid G6
  clear hown5 hown6 hg5 hg6 hO5 hO6 hO6' G5 G6 hML hi hz0 hz1 hz2
  refine (open_any w6 _ b HBH.out (by have := Hm.out; omega)).mono ?_
  rintro e w7 ⟨rb, v1, rfl, hr7, hrb, hv1, hg7⟩
  have HR7 := hid hr7
  have HV1 := hid hv1
  have HG7 := hid hg7
  have hadd : ∀ w' : World, (Op.stringOp .add (strOfNums b) ⟨#[165]⟩).run Try.prog w' = .ok (.string (strOfNums (b ++ [165]))) w' := fun w' => by
    rw [run_string_add_sum w' _ _ (by rw [strOfNums_size]; have := Hm.out; show b.length + 1 ≤ _; omega), sn_snoc165]
  have hszN : ¬ (9223372036854775807 < (strOfNums b).size + 1) := by rw [strOfNums_size]; have := Hm.out; omega
  have hcat := sn_snoc165 b
  have hcv1 : (convert 23 9 (.slice (some ⟨g, 0, none⟩) M cap6)).run Try.prog w7 = .ok (.string (strOfNums (b ++ [165]))) w7 := by
    have := conv_bs (HN6.out.grown hg7)
    rw [HML.out] at this
    exact this
  have hcv2 := conv_bs (HD6.out.grown hg7)
  clear hr7 hv1 hg7
  go_wp2_with fail
  refine (spoil_any w7 _ w.heap.size M (ub (b ++ [165])) (HOW.out.kept HG7.out (.inr (by simp [Value.ownBlock]))) (by have := Hm.out; have := HM.out; omega) (Nat.le_trans HG6.out.size HG7.out.size)).mono ?_
  rintro e w8 ⟨rfl, hg8⟩
  have hk8 : w7.grownBy w8 (some g) := hg8
  have hs6 := HG6.out.size
  have hs7 := HG7.out.size
  have HG8 := hid (grown_past (grownBy_trans HG6.out HG7.out) hk8 hgl)
  have HR8 := hid (HR7.out.keep hk8 (by simp; omega) (.inr (fun e => by have := (HV1.out g e).1; omega)))
  have HF8 := hid (HBb.out.grown HG8.out)
  have hs8 := hk8.size
  have hrb7 := lt_of_block HR7.out.1
  have HX := hid (show (w8.heap.size ≠ rb ∧ rb < w8.heap.size) ∧ (∀ k, v1.ownBlock = some k → k < w8.heap.size) ∧ (∀ k, (Value.slice aob b.length capb).ownBlock = some k → k < w.heap.size ∧ k < w8.heap.size ∧ k ≠ rb) from
    ⟨⟨by omega, by omega⟩, fun k e => by have := (HV1.out k e).2; omega, fun k e => by have := HBL.out k e; omega⟩)
  have HRB := hid (show w.heap.size ≤ rb by omega)
  clear hg8 hk8 hadd hszN hcat hcv1 hcv2 HR7 HV1 HD6 HN6 HOW HBH HM HML HM0 hcI hgl hglt
  go_wp2
  obtain ⟨W9, hW9⟩ : ∃ W9, W9 = w8.alloc (.cells #[.slice aob b.length capb, .int .i64 0] 40) := ⟨_, rfl⟩
  rw [← hW9]
  have HR9 := hid (show Rd W9 rb v1 b by rw [hW9]; exact HR8.out.alloc _)
  have HF9 := hid (show Rf W9 w8.heap.size (.slice aob b.length capb) 0 b by
    rw [hW9]
    exact ⟨heap_alloc_new w8 _, HF8.out.grown (World.grownBy_alloc _ _ _), fun e => by have := (HX.out.2.2 _ e).2.1; omega, Nat.zero_le _⟩)
  have HG9 := hid (show w.grownBy W9 none ∧ w8.heap.size < W9.heap.size by
    refine ⟨?_, by rw [hW9]; simp⟩
    rw [hW9]
    exact grownBy_trans HG8.out (World.grownBy_alloc _ _ _))
  have HS8 := hid (show w.heap.size ≤ w8.heap.size by omega)
  clear hW9 HR8 HF8 hs6 hs7 hs8 hrb7 hrb
  go_loopw [8] (fun i wr => ∃ (k : Nat), k ≤ 300 ∧ k ≤ N ∧ i = .int .i64 k ∧ Hid (∃ v2 at1, Rd wr rb v2 (b.drop at1) ∧ v2.ownBlock = v1.ownBlock ∧ Rf wr w8.heap.size (.slice aob b.length capb) at1 b) ∧ Hid (w.grownBy wr none ∧ w8.heap.size < wr.heap.size))
    (fun i _ => 300 - (intOf i).toNat)
  case atStart => exact ⟨0, by omega, by omega, rfl, ⟨v1, 0, HR9.out, rfl, HF9.out⟩, HG9.out⟩
  case round =>
    obtain ⟨k, hk3, hkN, rfl, hS, hG⟩ := hrel
    by_cases hlt : k < N ∧ k < 300
    · have q1 : (k : Int) < (N : Int) := by omega
      have q2 : (k : Int) < 300 := by omega
      obtain ⟨bb, off, rfl, hcp, u0, u1, hmo⟩ := (HV.out.keep hG.out.1).at hlt.1
      obtain ⟨kd, hkd⟩ : ∃ kd, kd = (S k).1 := ⟨_, rfl⟩
      obtain ⟨mo, hmo'⟩ : ∃ mo, mo = (S k).2 := ⟨_, rfl⟩
      rw [← hkd] at u0
      rw [← hmo'] at u1 hmo
      clear hkd hmo'
      obtain ⟨v2, at1, hr2, ho2, hf2⟩ := hS.out
      have HR2 := hid hr2
      have HO2 := hid ho2
      have HF2 := hid hf2
      clear hr2 ho2 hf2 hS
      go_wp2_with fail
      refine (step_any wr rb w8.heap.size v2 _ at1 b HR2.out HF2.out Hby.out Hm.out (fun e => HX.out.1.1 e.symm) (fun e => by have := HX.out.2.1 _ (HO2.out ▸ e); omega) (fun e => (HX.out.2.2 _ e).2.2 rfl) (fun j e => by have := HX.out.2.1 j (HO2.out ▸ e); have := hG.out.2; omega) (fun j e => by have := (HX.out.2.2 j e).2.1; have := hG.out.2; omega) kd mo hmo).mono ?_
      rintro e w1 ⟨rfl, hK1, v3, at2, hr3, ho3, hf3⟩
      have hge : w.grownBy w1 none := by
        refine Kp.grown (Kp.past (Kp.of hG.out.1 (by simp)) hK1 (fun j hj hlt => ?_))
        have := HRB.out
        have := HS8.out
        simp at hj
        omega
      have HG1 := hid (show w.grownBy w1 none ∧ w8.heap.size < w1.heap.size from ⟨hge, Nat.lt_of_lt_of_le hG.out.2 hK1.size⟩)
      have HR3 := hid hr3
      have HO3 := hid (ho3.trans HO2.out)
      have HF3 := hid hf3
      have HLL := hid (show (b.drop at2).length ≤ 1048576 by rw [List.length_drop]; have := Hm.out; omega)
      obtain ⟨L, hL⟩ : ∃ L, L = (b.drop at2).length := ⟨_, rfl⟩
      have HL := hid hL
      have hLb : (L : Int) ≤ 1048576 := by have := HLL.out; omega
      clear hge hK1 hr3 ho3 hf3 u0 u1 hL HR2 HO2 HF2
      have hLL : ((L : Int) != (L : Int)) = false := by simp
      go_wp2_with fail
      refine (left_any w1 rb v3 _ HR3.out).mono ?_
      rintro e w2 ⟨rfl, hw2⟩
      subst hw2
      rw [← HL.out]
      go_wp2_with fail
      refine (fLeft_any w2 w8.heap.size _ at2 b HF3.out (by have := Hm.out; omega)).mono ?_
      rintro e w3 ⟨rfl, m3, hw3⟩
      rw [← HL.out]
      have g3 : w2.grownBy w3 none := by rw [hw3]; exact grownBy_drewN _ _
      have HR4 := hid (HR3.out.keep g3 (by simp) (.inl rfl))
      have HF4 := hid (HF3.out.keep g3 (by simp) (.inl rfl))
      have HG4 := hid (show w.grownBy w3 none ∧ w8.heap.size < w3.heap.size from ⟨grownBy_trans HG1.out.1 g3, Nat.lt_of_lt_of_le HG1.out.2 g3.size⟩)
      clear hw3 g3
      go_wp2_with fail
      refine (end_any w3 rb v3 _ HR4.out HLL.out).mono ?_
      rintro e w4 ⟨rfl, hw4⟩
      subst hw4
      rw [← HL.out]
      by_cases hL0 : L = 0
      · rw [if_pos hL0]
        have hL1 : ((L : Int) == 0) = true := by simp; omega
        have HL0 := hid hL0
        clear hL0
        go_wp2_with (go_at_call 23; go_in)
        refine (fLeft_any w4 w8.heap.size _ at2 b HF4.out (by have := Hm.out; omega)).mono ?_
        rintro e w5 ⟨rfl, m5, hw5⟩
        rw [← HL.out]
        have g5 : w4.grownBy w5 none := by rw [hw5]; exact grownBy_drewN _ _
        have HR5 := hid (HR4.out.keep g5 (by simp) (.inl rfl))
        have HF5 := hid (HF4.out.keep g5 (by simp) (.inl rfl))
        have HG5 := hid (show w.grownBy w5 none ∧ w8.heap.size < w5.heap.size from ⟨grownBy_trans HG4.out.1 g5, Nat.lt_of_lt_of_le HG4.out.2 g5.size⟩)
        clear hw5 g5
        go_wp2
        go_roundw
        case rel => exact ⟨k + 1, by omega, by omega, by go_num, ⟨v3, at2, HR5.out, HO3.out, HF5.out⟩, HG5.out⟩
        case measure => simp [intOf]; omega
      · rw [if_neg hL0]
        have hL1 : ((L : Int) == 0) = false := by simp; omega
        have HL0 := hid hL0
        clear hL0
        go_wp2_with (go_at_call 23; go_in)
        refine (fLeft_any w4 w8.heap.size _ at2 b HF4.out (by have := Hm.out; omega)).mono ?_
        rintro e w5 ⟨rfl, m5, hw5⟩
        rw [← HL.out]
        have g5 : w4.grownBy w5 none := by rw [hw5]; exact grownBy_drewN _ _
        have HR5 := hid (HR4.out.keep g5 (by simp) (.inl rfl))
        have HF5 := hid (HF4.out.keep g5 (by simp) (.inl rfl))
        have HG5 := hid (show w.grownBy w5 none ∧ w8.heap.size < w5.heap.size from ⟨grownBy_trans HG4.out.1 g5, Nat.lt_of_lt_of_le HG4.out.2 g5.size⟩)
        clear hw5 g5
        go_wp2
        go_roundw
        case rel => exact ⟨k + 1, by omega, by omega, by go_num, ⟨v3, at2, HR5.out, HO3.out, HF5.out⟩, HG5.out⟩
        case measure => simp [intOf]; omega
    · have hend : (N : Int) ≤ (k : Int) ∨ ((k : Int) < (N : Int) ∧ (300 : Int) ≤ (k : Int)) := by omega
      clear hlt
      rcases hend with q1 | ⟨q1, q2⟩
      all_goals
        go_wp2_with fail
        refine (known_any wr).mono ?_
        rintro e w1 ⟨rfl, hg1⟩
        have HG1 := hid (grownBy_trans hG.out.1 hg1)
        clear hg1
        go_wp2
        go_ret
        exact ⟨rfl, HG1.out⟩
end Go.Proofs.Ytnnjfhgdimcieaa
