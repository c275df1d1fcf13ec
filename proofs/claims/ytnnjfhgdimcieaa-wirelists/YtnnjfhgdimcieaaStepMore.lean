/- step: lists of bytes, and of numbers. -/
import Derived.Test.YtnnjfhgdimcieaaStep
namespace Go.Proofs.Ytnnjfhgdimcieaa
open Go.RowKit
set_option linter.unusedVariables false
set_option linter.unusedSectionVars false

theorem drew_join (w : World) (a b : Nat) : (w.drewN a).drewN b = w.drewN (a + b) := by simp [World.drewN, Nat.add_assoc]
theorem conv_nil23 (w : World) : (convert 23 9 (.slice none 0 0)).run Try.prog w = .ok (.string (strOfNums [])) w :=
  conv_bs (w := w) (v := .slice none 0 0) (l := []) ⟨none, 0, rfl, by simp, fun _ => rfl, fun h => absurd rfl h⟩

section
variable (w : World) (rb db : Nat) (v vb : Value) (at0 : Nat) (b : List Int) (hr : Rd w rb v (b.drop at0)) (hf : Rf w db vb at0 b) (hby : Byt b) (hm : b.length ≤ 1048576) (hne : rb ≠ db) (hvd : v.ownBlock ≠ some db) (hbr : vb.ownBlock ≠ some rb) (hvl : ∀ k, v.ownBlock = some k → k < w.heap.size) (hbl : ∀ k, vb.ownBlock = some k → k < w.heap.size) (most : Int)
include hr hf hby hm hne hvd hbr hvl hbl

set_option maxRecDepth 100000 in
set_option maxHeartbeats 1000000 in
theorem step_bytes_neg (h0 : most < 0) : Calls Try.prog 20 #[.pointer (some ⟨rb, 0, none⟩), .pointer (some ⟨db, 0, none⟩), .agg #[.int .i64 4, .int .i64 most]] w fun e w' => Left2 w w' rb db v vb b e := by
  have HR := hid hr
  have HF := hid hf
  have Hby := hid hby
  have Hm := hid hm
  have HBD := hid (show Byt (b.drop at0) from fun x hx => hby x (List.mem_of_mem_drop hx))
  have HLD := hid (show (b.drop at0).length ≤ 1048576 by rw [List.length_drop]; omega)
  have hrl := lt_of_block hr.1
  have hdl := lt_of_block hf.1
  have HA := hid (And.intro hne (And.intro hvd hbr))
  have HVL := hid hvl
  have HBL := hid hbl
  clear hr hf hby hm hne hvd hbr hvl hbl
  have HR1 := hid (HR.out.alloc (.cells #[.int .i64 4, .int .i64 most] 43))
  have HF1 := hid (HF.out.keep (World.grownBy_alloc w (.cells #[.int .i64 4, .int .i64 most] 43) none) (by simp) (.inl rfl))
  have hbx : (w.alloc (.cells #[.int .i64 4, .int .i64 most] 43)).cell? ⟨w.heap.size, 1, none⟩ = some (.int .i64 most) := cell_two1 (heap_alloc_new w (.cells #[.int .i64 4, .int .i64 most] 43))
  have hrd : (some rb : Option Nat) ≠ some w.heap.size := by simp; omega
  have hdd : (some db : Option Nat) ≠ some w.heap.size := by simp; omega
  have HQ := hid (show rbytes most (b.drop at0) = .error 2 by unfold rbytes rcnt; rw [if_pos h0])
  go_enter Try.func20, Try.ntmps20
  go_wp2_with fail
  refine (rBytes_err _ rb v (b.drop at0) most 2 HR1.out HBD.out (by have := HLD.out; omega) (by omega) HQ.out).mono ?_
  rintro e w1 ⟨rfl, hg1, hr1⟩
  have HF2 := hid (HF1.out.keep hg1 (by have := HA.out.1; simpa using this) (.inr HA.out.2.2))
  have HR2 := hid hr1
  have HK1 := hid ((Kp.of (World.grownBy_alloc w (.cells #[.int .i64 4, .int .i64 most] 43) none) (rows := [rb, db]) (by simp)).next hg1 (by simp))
  have qb := cell_grown hg1 hbx hrd
  clear hg1 hr1
  go_wp2
  go_ret
  exact ⟨rfl, HK1.out, v, at0, HR2.out, rfl, HF2.out⟩

set_option maxRecDepth 100000 in
set_option maxHeartbeats 1000000 in
theorem step_bytes_err (h0 : 0 ≤ most) (h1 : most ≤ 9223372036854775807) (e : Int) (hq : rbytes most (b.drop at0) = .error e) : Calls Try.prog 20 #[.pointer (some ⟨rb, 0, none⟩), .pointer (some ⟨db, 0, none⟩), .agg #[.int .i64 4, .int .i64 most]] w fun e w' => Left2 w w' rb db v vb b e := by
  have HR := hid hr
  have HF := hid hf
  have Hby := hid hby
  have Hm := hid hm
  have HBD := hid (show Byt (b.drop at0) from fun x hx => hby x (List.mem_of_mem_drop hx))
  have HLD := hid (show (b.drop at0).length ≤ 1048576 by rw [List.length_drop]; omega)
  have hrl := lt_of_block hr.1
  have hdl := lt_of_block hf.1
  have HA := hid (And.intro hne (And.intro hvd hbr))
  have HVL := hid hvl
  have HBL := hid hbl
  clear hr hf hby hm hne hvd hbr hvl hbl
  have HR1 := hid (HR.out.alloc (.cells #[.int .i64 4, .int .i64 most] 43))
  have HF1 := hid (HF.out.keep (World.grownBy_alloc w (.cells #[.int .i64 4, .int .i64 most] 43) none) (by simp) (.inl rfl))
  have hbx : (w.alloc (.cells #[.int .i64 4, .int .i64 most] 43)).cell? ⟨w.heap.size, 1, none⟩ = some (.int .i64 most) := cell_two1 (heap_alloc_new w (.cells #[.int .i64 4, .int .i64 most] 43))
  have hrd : (some rb : Option Nat) ≠ some w.heap.size := by simp; omega
  have hdd : (some db : Option Nat) ≠ some w.heap.size := by simp; omega
  have HQ := hid hq
  clear hq
  go_enter Try.func20, Try.ntmps20
  go_wp2_with fail
  refine (rBytes_err _ rb v (b.drop at0) most e HR1.out HBD.out (by have := HLD.out; omega) h1 HQ.out).mono ?_
  rintro en w1 ⟨rfl, hg1, hr1⟩
  have HF2 := hid (HF1.out.keep hg1 (by have := HA.out.1; simpa using this) (.inr HA.out.2.2))
  have HR2 := hid hr1
  have HK1 := hid ((Kp.of (World.grownBy_alloc w (.cells #[.int .i64 4, .int .i64 most] 43) none) (rows := [rb, db]) (by simp)).next hg1 (by simp))
  have qb := cell_grown hg1 hbx hrd
  clear hg1 hr1
  go_wp2_with fail
  refine (fBytes_err w1 db vb at0 b most e HF2.out Hby.out (by have := Hm.out; omega) h0 h1 HQ.out).mono ?_
  rintro en w2 ⟨rfl, hg2, hf2⟩
  have HR3 := hid (HR2.out.keep hg2 (by have := HA.out.1; simp; omega) (.inr HA.out.2.1))
  have HF3 := hid hf2
  have HK2 := hid (HK1.out.next hg2 (by simp))
  have hcv := conv_nil23
  clear hg2 hf2 qb
  go_wp2_with (go_at_call 23; go_in)
  refine (spoil_any w2 _ w2.heap.size 0 [] (World.ownsRow_nil _ _ _ _) (by omega) (Nat.le_refl _)).mono ?_
  rintro en w3 ⟨rfl, hg3⟩
  have hg3' : w2.grownBy w3 none := hg3
  have HR4 := hid (HR3.out.keep hg3' (by simp) (.inl rfl))
  have HF4 := hid (HF3.out.keep hg3' (by simp) (.inl rfl))
  have HK3 := hid (HK2.out.next hg3' (by simp))
  clear hg3 hg3' hcv
  go_wp2
  go_ret
  exact ⟨rfl, HK3.out, v, at0, HR4.out, rfl, HF4.out⟩

set_option maxRecDepth 100000 in
set_option maxHeartbeats 1000000 in
theorem step_bytes_ok (h0 : 0 ≤ most) (h1 : most ≤ 9223372036854775807) (d r : List Int) (hq : rbytes most (b.drop at0) = .ok (d, r)) (hd : d.length ≤ 1048576) : Calls Try.prog 20 #[.pointer (some ⟨rb, 0, none⟩), .pointer (some ⟨db, 0, none⟩), .agg #[.int .i64 4, .int .i64 most]] w fun e w' => Left2 w w' rb db v vb b e := by
  have HR := hid hr
  have HF := hid hf
  have Hby := hid hby
  have Hm := hid hm
  have HBD := hid (show Byt (b.drop at0) from fun x hx => hby x (List.mem_of_mem_drop hx))
  have HLD := hid (show (b.drop at0).length ≤ 1048576 by rw [List.length_drop]; omega)
  have hrl := lt_of_block hr.1
  have hdl := lt_of_block hf.1
  have HA := hid (And.intro hne (And.intro hvd hbr))
  have HVL := hid hvl
  have HBL := hid hbl
  clear hr hf hby hm hne hvd hbr hvl hbl
  have HR1 := hid (HR.out.alloc (.cells #[.int .i64 4, .int .i64 most] 43))
  have HF1 := hid (HF.out.keep (World.grownBy_alloc w (.cells #[.int .i64 4, .int .i64 most] 43) none) (by simp) (.inl rfl))
  have hbx : (w.alloc (.cells #[.int .i64 4, .int .i64 most] 43)).cell? ⟨w.heap.size, 1, none⟩ = some (.int .i64 most) := cell_two1 (heap_alloc_new w (.cells #[.int .i64 4, .int .i64 most] 43))
  have hrd : (some rb : Option Nat) ≠ some w.heap.size := by simp; omega
  have hdd : (some db : Option Nat) ≠ some w.heap.size := by simp; omega
  have HQ := hid hq
  have HDL := hid hd
  clear hq hd
  go_enter Try.func20, Try.ntmps20
  go_wp2_with fail
  refine (rBytes_ok _ rb v (b.drop at0) most d r HR1.out HBD.out (by have := HLD.out; omega) h1 HQ.out).mono ?_
  rintro en w1 ⟨v1, rfl, hown1, hg1, v2, hr1, ho1⟩
  obtain ⟨ao1, cp1, rfl⟩ := owns_shape hown1
  have HF2 := hid (HF1.out.keep hg1 (by have := HA.out.1; simpa using this) (.inr HA.out.2.2))
  have HR2 := hid hr1
  have HO := hid ho1
  have HW1 := hid (owns_base hown1 (base' := w.heap.size + 1) (by simp))
  have HK1 := hid ((Kp.of (World.grownBy_alloc w (.cells #[.int .i64 4, .int .i64 most] 43) none) (rows := [rb, db]) (by simp)).next hg1 (by simp))
  have qb := cell_grown hg1 hbx hrd
  have hs1 : w.heap.size + 1 ≤ w1.heap.size := by have := hg1.size; simp at this; omega
  clear hg1 hr1 hown1 ho1
  go_wp2_with fail
  refine (fBytes_ok w1 db vb at0 b most d r HF2.out Hby.out (by have := Hm.out; omega) h0 h1 HQ.out).mono ?_
  rintro en w2 ⟨v3, rfl, hown3, hg2, at1, hf2, hd2⟩
  obtain ⟨ao3, cp3, rfl⟩ := owns_shape hown3
  have HR3 := hid (HR2.out.keep hg2 (by have := HA.out.1; simp; omega) (.inr (by rw [HO.out]; exact HA.out.2.1)))
  have HF3 := hid hf2
  have HD := hid hd2
  have HK2 := hid (HK1.out.next hg2 (by simp))
  have HW2 := hid (owns_keep HW1.out hg2 (by omega))
  have hcv1 := conv_bs (Bs.of_owns (l := d) HW2.out)
  have hcv2 := conv_bs (Bs.of_owns (l := d) hown3)
  have hs2 := hg2.size
  clear hg2 hf2 hd2 hown3 qb
  go_wp2_with (go_at_call 23; go_in)
  refine (spoil_any w2 _ (w.heap.size + 1) d.length (ub d) HW2.out (by have := HDL.out; omega) (by omega)).mono ?_
  rintro en w3 ⟨rfl, hg3⟩
  have hob : ∀ k, (Value.slice ao1 d.length cp1).ownBlock = some k → w.heap.size < k := fun k e => by have := (HW2.out.lt k e).1; omega
  have hk3 : w2.grownBy w3 (Value.slice ao1 d.length cp1).ownBlock := hg3
  have HR4 := hid (HR3.out.keep hk3 (fun e => by have := hob rb e; omega) (by
    cases ho : (Value.slice ao1 d.length cp1).ownBlock with
    | none => exact .inl rfl
    | some g => exact .inr fun e => by have h1 := hob g ho; have h2 := HVL.out g (by rw [← HO.out]; exact e); omega))
  have HF4 := hid (HF3.out.keep hk3 (fun e => by have := hob db e; omega) (by
    cases ho : (Value.slice ao1 d.length cp1).ownBlock with
    | none => exact .inl rfl
    | some g => exact .inr fun e => by have h1 := hob g ho; have h2 := HBL.out g e; omega))
  have HK3 := hid (HK2.out.next hk3 (fun k e hlt => by have := hob k e; omega))
  clear hg3 hk3 hcv1 hcv2 hob
  go_wp2
  go_ret
  exact ⟨rfl, HK3.out, v2, at1, by rw [HD.out]; exact HR4.out, HO.out, HF4.out⟩

set_option maxRecDepth 100000 in
set_option maxHeartbeats 1000000 in
theorem step_take_neg (h0 : most < 0) : Calls Try.prog 20 #[.pointer (some ⟨rb, 0, none⟩), .pointer (some ⟨db, 0, none⟩), .agg #[.int .i64 5, .int .i64 most]] w fun e w' => Left2 w w' rb db v vb b e := by
  have HR := hid hr
  have HF := hid hf
  have Hby := hid hby
  have Hm := hid hm
  have HBD := hid (show Byt (b.drop at0) from fun x hx => hby x (List.mem_of_mem_drop hx))
  have HLD := hid (show (b.drop at0).length ≤ 1048576 by rw [List.length_drop]; omega)
  have hrl := lt_of_block hr.1
  have hdl := lt_of_block hf.1
  have HA := hid (And.intro hne (And.intro hvd hbr))
  have HVL := hid hvl
  have HBL := hid hbl
  clear hr hf hby hm hne hvd hbr hvl hbl
  have HR1 := hid (HR.out.alloc (.cells #[.int .i64 5, .int .i64 most] 43))
  have HF1 := hid (HF.out.keep (World.grownBy_alloc w (.cells #[.int .i64 5, .int .i64 most] 43) none) (by simp) (.inl rfl))
  have hbx : (w.alloc (.cells #[.int .i64 5, .int .i64 most] 43)).cell? ⟨w.heap.size, 1, none⟩ = some (.int .i64 most) := cell_two1 (heap_alloc_new w (.cells #[.int .i64 5, .int .i64 most] 43))
  have hrd : (some rb : Option Nat) ≠ some w.heap.size := by simp; omega
  have hdd : (some db : Option Nat) ≠ some w.heap.size := by simp; omega
  have HQ := hid (show rtake most (b.drop at0) = .error 2 by unfold rtake rcnt; rw [if_pos h0])
  go_enter Try.func20, Try.ntmps20
  go_wp2_with fail
  refine (take_any _ rb v (b.drop at0) most HR1.out HBD.out HLD.out (by omega)).mono ?_
  rintro e w1 ⟨hg1, htk⟩
  rw [HQ.out] at htk
  obtain ⟨rfl, hr1⟩ := htk
  have HF2 := hid (HF1.out.keep hg1 (by have := HA.out.1; simpa using this) (.inr HA.out.2.2))
  have HR2 := hid hr1
  have HK1 := hid ((Kp.of (World.grownBy_alloc w (.cells #[.int .i64 5, .int .i64 most] 43) none) (rows := [rb, db]) (by simp)).next hg1 (by simp))
  have qb := cell_grown hg1 hbx hrd
  clear hg1 hr1
  go_wp2
  go_ret
  exact ⟨rfl, HK1.out, v, at0, HR2.out, rfl, HF2.out⟩

set_option maxRecDepth 100000 in
set_option maxHeartbeats 1000000 in
theorem step_take_err (h0 : 0 ≤ most) (h1 : most ≤ 9223372036854775807) (e : Int) (hq : rtake most (b.drop at0) = .error e) : Calls Try.prog 20 #[.pointer (some ⟨rb, 0, none⟩), .pointer (some ⟨db, 0, none⟩), .agg #[.int .i64 5, .int .i64 most]] w fun e w' => Left2 w w' rb db v vb b e := by
  have HR := hid hr
  have HF := hid hf
  have Hby := hid hby
  have Hm := hid hm
  have HBD := hid (show Byt (b.drop at0) from fun x hx => hby x (List.mem_of_mem_drop hx))
  have HLD := hid (show (b.drop at0).length ≤ 1048576 by rw [List.length_drop]; omega)
  have hrl := lt_of_block hr.1
  have hdl := lt_of_block hf.1
  have HA := hid (And.intro hne (And.intro hvd hbr))
  have HVL := hid hvl
  have HBL := hid hbl
  clear hr hf hby hm hne hvd hbr hvl hbl
  have HR1 := hid (HR.out.alloc (.cells #[.int .i64 5, .int .i64 most] 43))
  have HF1 := hid (HF.out.keep (World.grownBy_alloc w (.cells #[.int .i64 5, .int .i64 most] 43) none) (by simp) (.inl rfl))
  have hbx : (w.alloc (.cells #[.int .i64 5, .int .i64 most] 43)).cell? ⟨w.heap.size, 1, none⟩ = some (.int .i64 most) := cell_two1 (heap_alloc_new w (.cells #[.int .i64 5, .int .i64 most] 43))
  have hrd : (some rb : Option Nat) ≠ some w.heap.size := by simp; omega
  have hdd : (some db : Option Nat) ≠ some w.heap.size := by simp; omega
  have HQ := hid hq
  clear hq
  go_enter Try.func20, Try.ntmps20
  go_wp2_with fail
  refine (take_any _ rb v (b.drop at0) most HR1.out HBD.out HLD.out h1).mono ?_
  rintro en w1 ⟨hg1, htk⟩
  rw [HQ.out] at htk
  obtain ⟨rfl, hr1⟩ := htk
  have HF2 := hid (HF1.out.keep hg1 (by have := HA.out.1; simpa using this) (.inr HA.out.2.2))
  have HR2 := hid hr1
  have HK1 := hid ((Kp.of (World.grownBy_alloc w (.cells #[.int .i64 5, .int .i64 most] 43) none) (rows := [rb, db]) (by simp)).next hg1 (by simp))
  have qb := cell_grown hg1 hbx hrd
  clear hg1 hr1
  go_wp2_with fail
  refine (fNumbers_any w1 db vb at0 b most HF2.out Hby.out Hm.out h0 h1).mono ?_
  rintro en w2 ⟨hg2, hgt⟩
  rw [HQ.out] at hgt
  obtain ⟨rfl, hf2⟩ := hgt
  have HR3 := hid (HR2.out.keep hg2 (by have := HA.out.1; simp; omega) (.inr HA.out.2.1))
  have HF3 := hid hf2
  have HK2 := hid (HK1.out.next hg2 (by simp))
  clear hg2 hf2 qb
  go_wp2
  refine wp_loop_rounds 1 ?_
  rw [rounds_succ]
  go_wp2
  go_ret
  exact ⟨rfl, HK2.out, v, at0, HR3.out, rfl, HF3.out⟩

set_option maxRecDepth 100000 in
set_option maxHeartbeats 1000000 in
theorem step_take_ok (h0 : 0 ≤ most) (h1 : most ≤ 9223372036854775807) (xs : List Nat) (r : List Int) (hq : rtake most (b.drop at0) = .ok (xs, r)) : Calls Try.prog 20 #[.pointer (some ⟨rb, 0, none⟩), .pointer (some ⟨db, 0, none⟩), .agg #[.int .i64 5, .int .i64 most]] w fun e w' => Left2 w w' rb db v vb b e := by
  have HR := hid hr
  have HF := hid hf
  have Hby := hid hby
  have Hm := hid hm
  have HBD := hid (show Byt (b.drop at0) from fun x hx => hby x (List.mem_of_mem_drop hx))
  have HLD := hid (show (b.drop at0).length ≤ 1048576 by rw [List.length_drop]; omega)
  have hrl := lt_of_block hr.1
  have hdl := lt_of_block hf.1
  have HA := hid (And.intro hne (And.intro hvd hbr))
  have HVL := hid hvl
  have HBL := hid hbl
  clear hr hf hby hm hne hvd hbr hvl hbl
  have HR1 := hid (HR.out.alloc (.cells #[.int .i64 5, .int .i64 most] 43))
  have HF1 := hid (HF.out.keep (World.grownBy_alloc w (.cells #[.int .i64 5, .int .i64 most] 43) none) (by simp) (.inl rfl))
  have hbx : (w.alloc (.cells #[.int .i64 5, .int .i64 most] 43)).cell? ⟨w.heap.size, 1, none⟩ = some (.int .i64 most) := cell_two1 (heap_alloc_new w (.cells #[.int .i64 5, .int .i64 most] 43))
  have hrd : (some rb : Option Nat) ≠ some w.heap.size := by simp; omega
  have hdd : (some db : Option Nat) ≠ some w.heap.size := by simp; omega
  have HQ := hid hq
  clear hq
  go_enter Try.func20, Try.ntmps20
  go_wp2_with fail
  refine (take_any _ rb v (b.drop at0) most HR1.out HBD.out HLD.out h1).mono ?_
  rintro en w1 ⟨hg1, htk⟩
  rw [HQ.out] at htk
  obtain ⟨⟨v1, rfl, hown1⟩, v2, hr1, ho1⟩ := htk
  obtain ⟨ao1, cp1, rfl⟩ := owns_shape hown1
  have HF2 := hid (HF1.out.keep hg1 (by have := HA.out.1; simpa using this) (.inr HA.out.2.2))
  have HR2 := hid hr1
  have HO := hid ho1
  have HW1 := hid (owns_base hown1 (base' := w.heap.size + 1) (by simp))
  have HK1 := hid ((Kp.of (World.grownBy_alloc w (.cells #[.int .i64 5, .int .i64 most] 43) none) (rows := [rb, db]) (by simp)).next hg1 (by simp))
  have qb := cell_grown hg1 hbx hrd
  clear hg1 hr1 hown1 ho1
  go_wp2_with fail
  refine (fNumbers_any w1 db vb at0 b most HF2.out Hby.out Hm.out h0 h1).mono ?_
  rintro en w2 ⟨hg2, hgt⟩
  rw [HQ.out] at hgt
  obtain ⟨⟨v3, rfl, hown3⟩, at1, hf2, hd2⟩ := hgt
  obtain ⟨ao3, cp3, rfl⟩ := owns_shape hown3
  have HR3 := hid (HR2.out.keep hg2 (by have := HA.out.1; simp; omega) (.inr (by rw [HO.out]; exact HA.out.2.1)))
  have HF3 := hid hf2
  have HD := hid hd2
  have HK2 := hid (HK1.out.next hg2 (by simp))
  have HW2 := hid (owns_keep HW1.out hg2 (by omega))
  have HW3 := hid hown3
  obtain ⟨M, hM⟩ : ∃ M, M = xs.length := ⟨_, rfl⟩
  rw [← hM] at HW2 HW3 ⊢
  have hMI : (M : Int) ≤ 9223372036854775807 := by
    rcases HW3.out.2 with ⟨-, h0⟩ | ⟨g, cap, cur, hv, hb, hg, hnc, hcm, hcs, ht⟩
    · omega
    · unfold maxLen at hcm; omega
  have HMX := hid hM
  clear hg2 hf2 hd2 hown3 qb hM HW1
  go_wp2_with (go_at_call 23; go_in)
  go_loopw [28] (fun i wr => ∃ (k q : Nat), k ≤ M ∧ i = .int .i64 k ∧ wr = w2.drewN q)
    (fun i _ => M - (intOf i).toNat)
  case atStart => exact ⟨0, 0, Nat.zero_le _, rfl, rfl⟩
  case round =>
    obtain ⟨k, q, hk, rfl, hwr⟩ := hrel
    by_cases hlt : k < M
    · have hlt' : (k : Int) < (M : Int) := by omega
      have HWR := hid hwr
      have o2 : wr.ownsRow (w.heap.size + 1) 22 1 (.slice ao1 M cp1) M (uq xs) := by rw [hwr]; exact HW2.out
      have o3 : wr.ownsRow w1.heap.size 22 1 (.slice ao3 M cp3) M (uq xs) := by rw [hwr]; exact HW3.out
      clear hwr
      rcases o2.2 with ⟨hv, hn0⟩ | ⟨g, cap', cur, hv, hbg, hgg, hnc, hcm, hcs, htake⟩
      · omega
      rcases o3.2 with ⟨hv', hn0⟩ | ⟨g', cap'', cur', hv', hbg', hgg', hnc', hcm', hcs', htake'⟩
      · omega
      simp only [Value.slice.injEq, true_and] at hv hv'
      obtain ⟨rfl, rfl⟩ := hv
      obtain ⟨rfl, rfl⟩ := hv'
      have c1 := o2.cellAt k (by omega)
      have c3 := o3.cellAt k (by omega)
      have hux : (uq xs)[k]? = some (.int .u64 ((xs.getD k 0 : Nat) : Int)) := by
        have hkx : k < xs.length := by rw [← HMX.out]; exact hlt
        simp [uq, List.getElem?_eq_getElem hkx]
      rw [hux] at c1 c3
      obtain ⟨X, hX⟩ : ∃ X : Int, X = ((xs.getD k 0 : Nat) : Int) := ⟨_, rfl⟩
      rw [← hX] at c1 c3
      clear hX hux o2 o3 hgg hgg' hcs hcs' htake htake' hcm hcm' hbg hbg'
      go_wp2_with fail
      go_quiet (fail)
      go_wp2
      go_roundw
      case rel => exact ⟨k + 1, _, by omega, by go_num, by rw [HWR.out]; exact drew_join _ _ _⟩
      case measure => simp [intOf]; omega
    · have hlt' : ¬ (k : Int) < (M : Int) := by omega
      have HWR := hid hwr
      clear hwr
      go_wp2
      go_ret
      have hg : w2.grownBy wr none := by rw [HWR.out]; exact grownBy_drewN _ _
      exact ⟨rfl, HK2.out.next hg (by simp), v2, at1, by rw [HD.out]; exact HR3.out.keep hg (by simp) (.inl rfl), HO.out, HF3.out.keep hg (by simp) (.inl rfl)⟩
end
end Go.Proofs.Ytnnjfhgdimcieaa
