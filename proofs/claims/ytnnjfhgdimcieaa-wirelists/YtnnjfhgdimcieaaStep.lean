/- step: one call of each; the two answer the same, and stand at the same place. -/
import Derived.Test.YtnnjfhgdimcieaaRefBytes
import Derived.Test.YtnnjfhgdimcieaaRefNums
namespace Go.Proofs.Ytnnjfhgdimcieaa
open Go.RowKit
set_option linter.unusedVariables false
set_option linter.unusedSectionVars false

/-- What stays: every elder block but those listed. -/
structure Kp (w w' : World) (rows : List Nat) : Prop where
  os : w'.os = w.os
  tape : w'.tape = w.tape
  output : w'.output = w.output
  size : w.heap.size ≤ w'.heap.size
  block : ∀ k, k < w.heap.size → k ∉ rows → w'.heap[k]? = w.heap[k]?
theorem Kp.of {w w' : World} {row : Option Nat} (h : w.grownBy w' row) {rows : List Nat} (hr : ∀ k, row = some k → k < w.heap.size → k ∈ rows) : Kp w w' rows :=
  ⟨h.os, h.tape, h.output, h.size, fun k hk hn => h.block k hk fun e => hn (hr k e.symm hk)⟩
theorem Kp.refl (w : World) (rows : List Nat) : Kp w w rows := ⟨rfl, rfl, rfl, Nat.le_refl _, fun _ _ _ => rfl⟩
theorem Kp.past {w w1 w2 : World} {r1 r2 : List Nat} (h : Kp w w1 r1) (h' : Kp w1 w2 r2) (hr : ∀ k ∈ r2, k < w.heap.size → k ∈ r1) : Kp w w2 r1 :=
  ⟨h'.os.trans h.os, h'.tape.trans h.tape, h'.output.trans h.output, Nat.le_trans h.size h'.size, fun k hk hn => (h'.block k (Nat.lt_of_lt_of_le hk h.size) (fun hm => hn (hr k hm hk))).trans (h.block k hk hn)⟩
theorem Kp.next {w w1 w2 : World} {r1 : List Nat} {row : Option Nat} (h : Kp w w1 r1) (h' : w1.grownBy w2 row) (hr : ∀ k, row = some k → k < w.heap.size → k ∈ r1) : Kp w w2 r1 :=
  ⟨h'.os.trans h.os, h'.tape.trans h.tape, h'.output.trans h.output, Nat.le_trans h.size h'.size, fun k hk hn => (h'.block k (Nat.lt_of_lt_of_le hk h.size) (fun e => hn (hr k e.symm hk))).trans (h.block k hk hn)⟩
theorem cell_grown {w w' : World} {row : Option Nat} {b i : Nat} {v : Value} (hg : w.grownBy w' row) (h : w.cell? ⟨b, i, none⟩ = some v) (hb : row ≠ some b) : w'.cell? ⟨b, i, none⟩ = some v :=
  (World.cell?_of_block (a := ⟨b, i, none⟩) (hg.block b (World.block_lt_of_cell? w _ h) (fun e => hb e.symm))).trans h

/-- What a step leaves. -/
def Left2 (w w' : World) (rb db : Nat) (v vb : Value) (b : List Int) (e : Ending) : Prop :=
  e = .returned (.bool true) ∧ Kp w w' [rb, db] ∧ ∃ v' at1, Rd w' rb v' (b.drop at1) ∧ v'.ownBlock = v.ownBlock ∧ Rf w' db vb at1 b

set_option maxRecDepth 100000 in
theorem num_any (x : Int) (w : World) : Calls Try.prog 23 #[.int .i64 x] w fun e w' => e = .returned (.int .i64 x) ∧ w' = w := by
  go_enter Try.func23, Try.ntmps23
  go_wp2
  go_ret
  exact ⟨rfl, rfl⟩

section
variable (w : World) (rb db : Nat) (v vb : Value) (at0 : Nat) (b : List Int) (hr : Rd w rb v (b.drop at0)) (hf : Rf w db vb at0 b) (hby : Byt b) (hm : b.length ≤ 1048576) (hne : rb ≠ db) (hvd : v.ownBlock ≠ some db) (hbr : vb.ownBlock ≠ some rb) (hvl : ∀ k, v.ownBlock = some k → k < w.heap.size) (hbl : ∀ k, vb.ownBlock = some k → k < w.heap.size) (most : Int)
include hr hf hby hm hne hvd hbr hvl hbl

set_option maxRecDepth 100000 in
set_option maxHeartbeats 1000000 in
theorem step_number  : Calls Try.prog 20 #[.pointer (some ⟨rb, 0, none⟩), .pointer (some ⟨db, 0, none⟩), .agg #[.int .i64 1, .int .i64 most]] w fun e w' => Left2 w w' rb db v vb b e := by
  have HR := hid hr
  have HF := hid hf
  have Hby := hid hby
  have Hm := hid hm
  have HBD := hid (show Byt (b.drop at0) from fun x hx => hby x (List.mem_of_mem_drop hx))
  have HLD := hid (show (b.drop at0).length ≤ 1048576 by rw [List.length_drop]; omega)
  have hrl := lt_of_block hr.1
  have hdl := lt_of_block hf.1
  have HA := hid (And.intro hne (And.intro hvd hbr))
  have HVL := hid hvl
  have HBL := hid hbl
  clear hr hf hby hm hne hvd hbr hvl hbl
  have HR1 := hid (HR.out.alloc (.cells #[.int .i64 1, .int .i64 most] 43))
  have HF1 := hid (HF.out.keep (World.grownBy_alloc w (.cells #[.int .i64 1, .int .i64 most] 43) none) (by simp) (.inl rfl))
  cases hq : rnum 0 0 (b.drop at0) with
  | none =>
    have HQ := hid hq
    clear hq
    go_enter Try.func20, Try.ntmps20
    go_wp2_with fail
    refine (rNumber_no _ rb v (b.drop at0) HR1.out HBD.out (by have := HLD.out; omega) HQ.out).mono ?_
    rintro e w1 ⟨rfl, hg1, hr1⟩
    have HF2 := hid (HF1.out.keep hg1 (by have := HA.out.1; simpa using this) (.inr HA.out.2.2))
    have HR2 := hid hr1
    have HK1 := hid ((Kp.of (World.grownBy_alloc w (.cells #[.int .i64 1, .int .i64 most] 43) none) (rows := [rb, db]) (by simp)).next hg1 (by simp))
    clear hg1 hr1
    go_wp2_with fail
    refine (fNumber_no w1 db vb at0 b HF2.out Hby.out (by have := Hm.out; omega) HQ.out).mono ?_
    rintro e w2 ⟨rfl, hg2, hf2⟩
    have HR3 := hid (HR2.out.keep hg2 (by have := HA.out.1; simp; omega) (.inr HA.out.2.1))
    have HF3 := hid hf2
    have HK2 := hid (HK1.out.next hg2 (by simp))
    clear hg2 hf2
    go_wp2
    go_ret
    exact ⟨rfl, HK2.out, v, at0, HR3.out, rfl, HF3.out⟩
  | some p =>
    obtain ⟨x, r⟩ := p
    have HQ := hid hq
    clear hq
    go_enter Try.func20, Try.ntmps20
    go_wp2_with fail
    refine (rNumber_yes _ rb v (b.drop at0) x r HR1.out HBD.out (by have := HLD.out; omega) HQ.out).mono ?_
    rintro e w1 ⟨rfl, hg1, v1, hr1, ho1⟩
    have HF2 := hid (HF1.out.keep hg1 (by have := HA.out.1; simpa using this) (.inr HA.out.2.2))
    have HR2 := hid hr1
    have HO := hid ho1
    have HK1 := hid ((Kp.of (World.grownBy_alloc w (.cells #[.int .i64 1, .int .i64 most] 43) none) (rows := [rb, db]) (by simp)).next hg1 (by simp))
    clear hg1 hr1 ho1
    go_wp2_with fail
    refine (fNumber_yes w1 db vb at0 b x r HF2.out Hby.out (by have := Hm.out; omega) HQ.out).mono ?_
    rintro e w2 ⟨rfl, hg2, at1, hf2, hd2⟩
    have HR3 := hid (HR2.out.keep hg2 (by have := HA.out.1; simp; omega) (.inr (by rw [HO.out]; exact HA.out.2.1)))
    have HF3 := hid hf2
    have HD := hid hd2
    have HK2 := hid (HK1.out.next hg2 (by simp))
    clear hg2 hf2 hd2
    go_wp2
    go_ret
    exact ⟨rfl, HK2.out, v1, at1, by rw [HD.out]; exact HR3.out, HO.out, HF3.out⟩

set_option maxRecDepth 100000 in
set_option maxHeartbeats 1000000 in
theorem step_signed  : Calls Try.prog 20 #[.pointer (some ⟨rb, 0, none⟩), .pointer (some ⟨db, 0, none⟩), .agg #[.int .i64 2, .int .i64 most]] w fun e w' => Left2 w w' rb db v vb b e := by
  have HR := hid hr
  have HF := hid hf
  have Hby := hid hby
  have Hm := hid hm
  have HBD := hid (show Byt (b.drop at0) from fun x hx => hby x (List.mem_of_mem_drop hx))
  have HLD := hid (show (b.drop at0).length ≤ 1048576 by rw [List.length_drop]; omega)
  have hrl := lt_of_block hr.1
  have hdl := lt_of_block hf.1
  have HA := hid (And.intro hne (And.intro hvd hbr))
  have HVL := hid hvl
  have HBL := hid hbl
  clear hr hf hby hm hne hvd hbr hvl hbl
  have HR1 := hid (HR.out.alloc (.cells #[.int .i64 2, .int .i64 most] 43))
  have HF1 := hid (HF.out.keep (World.grownBy_alloc w (.cells #[.int .i64 2, .int .i64 most] 43) none) (by simp) (.inl rfl))
  cases hq : rnum 0 0 (b.drop at0) with
  | none =>
    have HQ := hid hq
    clear hq
    go_enter Try.func20, Try.ntmps20
    go_wp2_with fail
    refine (rSigned_no _ rb v (b.drop at0) HR1.out HBD.out (by have := HLD.out; omega) HQ.out).mono ?_
    rintro e w1 ⟨rfl, hg1, hr1⟩
    have HF2 := hid (HF1.out.keep hg1 (by have := HA.out.1; simpa using this) (.inr HA.out.2.2))
    have HR2 := hid hr1
    have HK1 := hid ((Kp.of (World.grownBy_alloc w (.cells #[.int .i64 2, .int .i64 most] 43) none) (rows := [rb, db]) (by simp)).next hg1 (by simp))
    clear hg1 hr1
    go_wp2_with fail
    refine (fSigned_no w1 db vb at0 b HF2.out Hby.out (by have := Hm.out; omega) HQ.out).mono ?_
    rintro e w2 ⟨rfl, hg2, hf2⟩
    have HR3 := hid (HR2.out.keep hg2 (by have := HA.out.1; simp; omega) (.inr HA.out.2.1))
    have HF3 := hid hf2
    have HK2 := hid (HK1.out.next hg2 (by simp))
    clear hg2 hf2
    go_wp2
    go_ret
    exact ⟨rfl, HK2.out, v, at0, HR3.out, rfl, HF3.out⟩
  | some p =>
    obtain ⟨x, r⟩ := p
    have HQ := hid hq
    clear hq
    go_enter Try.func20, Try.ntmps20
    go_wp2_with fail
    refine (rSigned_yes _ rb v (b.drop at0) x r HR1.out HBD.out (by have := HLD.out; omega) HQ.out).mono ?_
    rintro e w1 ⟨rfl, hg1, v1, hr1, ho1⟩
    have HF2 := hid (HF1.out.keep hg1 (by have := HA.out.1; simpa using this) (.inr HA.out.2.2))
    have HR2 := hid hr1
    have HO := hid ho1
    have HK1 := hid ((Kp.of (World.grownBy_alloc w (.cells #[.int .i64 2, .int .i64 most] 43) none) (rows := [rb, db]) (by simp)).next hg1 (by simp))
    clear hg1 hr1 ho1
    go_wp2_with fail
    refine (fSigned_yes w1 db vb at0 b x r HF2.out Hby.out (by have := Hm.out; omega) HQ.out).mono ?_
    rintro e w2 ⟨rfl, hg2, at1, hf2, hd2⟩
    have HR3 := hid (HR2.out.keep hg2 (by have := HA.out.1; simp; omega) (.inr (by rw [HO.out]; exact HA.out.2.1)))
    have HF3 := hid hf2
    have HD := hid hd2
    have HK2 := hid (HK1.out.next hg2 (by simp))
    clear hg2 hf2 hd2
    go_wp2
    go_ret
    exact ⟨rfl, HK2.out, v1, at1, by rw [HD.out]; exact HR3.out, HO.out, HF3.out⟩

set_option maxRecDepth 100000 in
set_option maxHeartbeats 1000000 in
theorem step_flag  : Calls Try.prog 20 #[.pointer (some ⟨rb, 0, none⟩), .pointer (some ⟨db, 0, none⟩), .agg #[.int .i64 3, .int .i64 most]] w fun e w' => Left2 w w' rb db v vb b e := by
  have HR := hid hr
  have HF := hid hf
  have Hby := hid hby
  have Hm := hid hm
  have HBD := hid (show Byt (b.drop at0) from fun x hx => hby x (List.mem_of_mem_drop hx))
  have HLD := hid (show (b.drop at0).length ≤ 1048576 by rw [List.length_drop]; omega)
  have hrl := lt_of_block hr.1
  have hdl := lt_of_block hf.1
  have HA := hid (And.intro hne (And.intro hvd hbr))
  have HVL := hid hvl
  have HBL := hid hbl
  clear hr hf hby hm hne hvd hbr hvl hbl
  have HR1 := hid (HR.out.alloc (.cells #[.int .i64 3, .int .i64 most] 43))
  have HF1 := hid (HF.out.keep (World.grownBy_alloc w (.cells #[.int .i64 3, .int .i64 most] 43) none) (by simp) (.inl rfl))
  cases hq : rflag (b.drop at0) with
  | none =>
    have HQ := hid hq
    clear hq
    go_enter Try.func20, Try.ntmps20
    go_wp2_with fail
    refine (rFlag_no _ rb v (b.drop at0) HR1.out (by have := HLD.out; omega) HQ.out).mono ?_
    rintro e w1 ⟨rfl, hg1, hr1⟩
    have HF2 := hid (HF1.out.keep hg1 (by have := HA.out.1; simpa using this) (.inr HA.out.2.2))
    have HR2 := hid hr1
    have HK1 := hid ((Kp.of (World.grownBy_alloc w (.cells #[.int .i64 3, .int .i64 most] 43) none) (rows := [rb, db]) (by simp)).next hg1 (by simp))
    clear hg1 hr1
    go_wp2_with fail
    refine (fFlag_no w1 db vb at0 b HF2.out Hby.out (by have := Hm.out; omega) HQ.out).mono ?_
    rintro e w2 ⟨rfl, hg2, hf2⟩
    have HR3 := hid (HR2.out.keep hg2 (by have := HA.out.1; simp; omega) (.inr HA.out.2.1))
    have HF3 := hid hf2
    have HK2 := hid (HK1.out.next hg2 (by simp))
    clear hg2 hf2
    go_wp2
    go_ret
    exact ⟨rfl, HK2.out, v, at0, HR3.out, rfl, HF3.out⟩
  | some p =>
    obtain ⟨x, r⟩ := p
    have HQ := hid hq
    clear hq
    go_enter Try.func20, Try.ntmps20
    go_wp2_with fail
    refine (rFlag_yes _ rb v (b.drop at0) x r HR1.out HBD.out (by have := HLD.out; omega) HQ.out).mono ?_
    rintro e w1 ⟨rfl, hg1, v1, hr1, ho1⟩
    have HF2 := hid (HF1.out.keep hg1 (by have := HA.out.1; simpa using this) (.inr HA.out.2.2))
    have HR2 := hid hr1
    have HO := hid ho1
    have HK1 := hid ((Kp.of (World.grownBy_alloc w (.cells #[.int .i64 3, .int .i64 most] 43) none) (rows := [rb, db]) (by simp)).next hg1 (by simp))
    clear hg1 hr1 ho1
    go_wp2_with fail
    refine (fFlag_yes w1 db vb at0 b x r HF2.out Hby.out (by have := Hm.out; omega) HQ.out).mono ?_
    rintro e w2 ⟨rfl, hg2, at1, hf2, hd2⟩
    have HR3 := hid (HR2.out.keep hg2 (by have := HA.out.1; simp; omega) (.inr (by rw [HO.out]; exact HA.out.2.1)))
    have HF3 := hid hf2
    have HD := hid hd2
    have HK2 := hid (HK1.out.next hg2 (by simp))
    clear hg2 hf2 hd2
    go_wp2
    go_ret
    exact ⟨rfl, HK2.out, v1, at1, by rw [HD.out]; exact HR3.out, HO.out, HF3.out⟩

set_option maxRecDepth 100000 in
set_option maxHeartbeats 1000000 in
theorem step_other (kind : Int) (h1 : (kind == 1) = false) (h2 : (kind == 2) = false) (h3 : (kind == 3) = false) (h4 : (kind == 4) = false) (h5 : (kind == 5) = false) : Calls Try.prog 20 #[.pointer (some ⟨rb, 0, none⟩), .pointer (some ⟨db, 0, none⟩), .agg #[.int .i64 kind, .int .i64 most]] w fun e w' => Left2 w w' rb db v vb b e := by
  have HR := hid hr
  have HF := hid hf
  have Hby := hid hby
  have Hm := hid hm
  have HBD := hid (show Byt (b.drop at0) from fun x hx => hby x (List.mem_of_mem_drop hx))
  have HLD := hid (show (b.drop at0).length ≤ 1048576 by rw [List.length_drop]; omega)
  have hrl := lt_of_block hr.1
  have hdl := lt_of_block hf.1
  have HA := hid (And.intro hne (And.intro hvd hbr))
  have HVL := hid hvl
  have HBL := hid hbl
  clear hr hf hby hm hne hvd hbr hvl hbl
  go_enter Try.func20, Try.ntmps20
  go_wp2
  go_ret
  exact ⟨rfl, Kp.of (World.grownBy_alloc w (.cells #[.int .i64 kind, .int .i64 most] 43) none) (by simp), v, at0, HR.out.alloc _, rfl, HF.out.keep (World.grownBy_alloc w (.cells #[.int .i64 kind, .int .i64 most] 43) none) (by simp) (.inl rfl)⟩
end
end Go.Proofs.Ytnnjfhgdimcieaa
