/- Of a cancellation that is not there. -/
import Derived.Test.YtjggpchjfglgcaaKn
import Derived.Test.YtjggpchjfglgcaaMarks
namespace Go.Proofs.Ytjggpchjfglgcaa
open Go.RowKit Go.Shelf Go.Lib
attribute [local go_sem] Oper.semAt_some

theorem fn_not_nil4 (a : Nat) (W : World) : (binOp .eql 66 (itc a) .nilFunc).run Try.prog W = .ok (.bool false) W := by kernel_rfl
section
variable {w : World} {p : Option Addr}
theorem z_len (h : Zc w p) : Calls Try.prog 24 #[.pointer p] w fun e w' => e = .returned (.int .i64 0) ∧ Kp w w' [] := len_any h.cv
theorem z_asked (h : Zc w p) : Calls Try.prog 25 #[.pointer p] w fun e w' => e = .returned (.bool false) ∧ Kp w w' [] := asked_any h.cv
theorem z_enabled (h : Zc w p) : Calls Try.prog 22 #[.pointer p] w fun e w' => e = .returned (.bool false) ∧ Kp w w' [] := enabled_any h.cv
theorem z_atonce (h : Zc w p) : Calls Try.prog 23 #[.pointer p] w fun e w' => e = .returned (.bool false) ∧ Kp w w' [] := atonce_any h.cv
theorem z_unwinds (h : Zc w p) : Calls Try.prog 26 #[.pointer p] w fun e w' => e = .returned (.bool false) ∧ Kp w w' [] := unwinds_any h.cv
theorem z_acts (h : Zc w p) (b : Bool) : Calls Try.prog 21 #[.pointer p, .bool b] w fun e w' => e = .returned (.bool false) ∧ Kp w w' [] := acts_any h.cv b
theorem z_same (h : Zc w p) : Calls Try.prog 12 #[.pointer p, .pointer none] w fun e w' => e = .returned (.bool true) ∧ Kp w w' [] := by
  have := same_any h.cv (show Cv w none zeroC true from Zc.cv (.inl rfl)) (by decide)
  rw [sameV_self] at this
  simpa using this
theorem z_eq {f : Nat} {args : Array Value} {v : Value} (h : Calls Try.prog f args w fun e w' => e = .returned v ∧ w' = w) : Calls Try.prog f args w fun e w' => e = .returned v ∧ Kp w w' [] :=
  h.mono fun _ _ ⟨a, b⟩ => ⟨a, b ▸ Kp.refl _ _⟩
end
set_option maxRecDepth 100000 in
set_option maxHeartbeats 4000000 in
theorem nothing_any (w : World) (p : Option Addr) (h : Zc w p) : Calls Try.prog 27 #[.pointer p] w fun e w' => e = .returned (.bool true) ∧ Kp w w' [] := by
  have HZ := hid h
  clear h
  refine (callsIn_wide (n := 6)).1 ?_
  have h1 : 1 ≤ 6 := by decide
  refine callsIn_of_wp_marks Try.func27 rfl trivial ?_ rfl
  simp only [Try.ntmps27, List.size_toArray, List.length_cons, List.length_nil, Nat.reduceAdd, Nat.reduceSub, Array.replicate_succ, Array.replicate_zero, List.push_toArray, List.append_toArray, List.nil_append, List.cons_append]
  refine wpIn_wide.2 ?_
  go_wp2_with fail
  obtain ⟨W0, hW0⟩ : ∃ W0, w.alloc (.cells #[.bool false] 4) = W0 := ⟨_, rfl⟩
  have hb : W0.heap[w.heap.size]? = some (.cells #[.bool false] 4 (0, 0)) := by rw [← hW0]; exact heap_alloc_new w _
  have k0 : Kp w W0 [] := by rw [← hW0]; exact Kp.alloc _ _ _
  try rw [hW0]
  clear hW0
  have HB := hid hb
  have K0 := hid (Kp.refl W0 [])
  have HK := hid k0
  have HZ := hid (HZ.out.keep k0)
  obtain ⟨rb, hrb⟩ : ∃ rb, w.heap.size = rb := ⟨_, rfl⟩
  have HRB := hid hrb
  rw [hrb] at HB
  simp only [hrb]
  clear hb k0 hrb
  refine (z_eq (ask_zero _ p (HZ.out.keep K0.out))).mono ?_
  rintro e w1 ⟨rfl, hk⟩
  have K1 := hid (K0.out.trans hk)
  clear hk K0
  go_wp2_with fail
  refine (enable_zero _ p (HZ.out.keep K1.out) true).mono ?_
  rintro e w2 ⟨rfl, hk⟩
  have K2 := hid (K1.out.trans hk)
  clear hk K1
  go_wp2_with fail
  refine (async_zero _ p (HZ.out.keep K2.out) true).mono ?_
  rintro e w3 ⟨rfl, hk⟩
  have K3 := hid (K2.out.trans hk)
  clear hk K2
  go_wp2_with fail
  refine (pop_zero _ p (HZ.out.keep K3.out)).mono ?_
  rintro e w4 ⟨rfl, hk⟩
  have K4 := hid ((K3.out.trans hk).trans (Kp.alloc w4 (.cells #[.int .i64 0, .int .i64 0] 30) []))
  clear hk K3
  go_wp2_with fail
  generalize w4.alloc (.cells #[.int .i64 0, .int .i64 0] 30) = v4 at K4 ⊢
  refine (all_any v4 p).mono ?_
  rintro e w5 ⟨rfl, hw5⟩
  have HI := hid (show Itc w5 v4.heap.size [] from by rw [hw5]; exact Itc.new (HZ.out.keep K4.out).cv (by decide))
  have K5 := hid (K4.out.trans (show Kp v4 w5 [] from by rw [hw5]; exact Kp.alloc _ _ _))
  have HS5 := hid (show W0.heap.size ≤ w5.heap.size from K5.out.size)
  clear hw5 K4
  have hnn := fn_not_nil4
  go_wp2_with fail
  have HSQ := itc_seqs 5 (by decide) v4.heap.size [] w5 HI.out
  refine (wpIn_wide (n := 6)).1 ?_
  refine range_seqs (K := KcS w5.heap.size) h1 (gf := 44) (lb := #[.pointer (some ⟨v4.heap.size, 0, none⟩)]) rfl (enters_of Try.func44 (by kernel_rfl) rfl)
    HSQ KcS.trans (kcS_put _) (kcS_alloc _) (Below.refl _ _) (fun _ => rfl)
    (fun _ V => Below w5.heap.size w5 V)
    (fun _ _ _ => False)
    (fun s A B row hs hg hr => (ownFrom_below (β := Unit) (w₀ := w5) (Nat.le_refl _) (Nat.le_refl _)) () A B row hs hg hr)
    (fun cc s A B row hs hg hr => hs)
    (Below.refl _ _)
    (fun d => .cells #[.int .i64 d.1, .int .i64 d.2] 30)
    (fun d b => { tmps := #[], defers := [] })
    ?assign ?body ?done ?stop
  case assign =>
    intro l d V K hd
    cases hd
  case body =>
    intro l pre d b V hpre
    simp at hpre
  case stop =>
    rintro E cc pre V hE hpre hf hK
    exact hf.elim
  case done =>
    rintro E V hE hI0 hK
    have hI := Kp.of_below hI0
    clear hI0
    have K5 := hid (K5.out.trans hI)
    have HL := hid (show Live w5.heap.size V [E] from ⟨by simpa using hK, by simp, by simpa using hE⟩)
    have HLW := hid (show Kp w5 V [] from hI)
    clear hI hK HSQ
    gi_wp2
    go_wp2_with fail
    refine (z_eq (num_any _ 1)).mono ?_
    rintro e y0 ⟨rfl, hk⟩
    have HL := hid (show Live w5.heap.size y0 [E] from ⟨by intro D hD; simp at hD; subst hD; exact (hk.block _ (lt_of_block (HL.out.1 D (by simp))) (by simp)).trans (HL.out.1 D (by simp)), HL.out.2⟩)
    have HLW := hid (HLW.out.trans hk)
    have K5 := hid (K5.out.trans hk)
    clear hk
    go_wp2_with fail
    refine (z_eq (num_any _ 1)).mono ?_
    rintro e y1 ⟨rfl, hk⟩
    have HL := hid (show Live w5.heap.size y1 [E] from ⟨by intro D hD; simp at hD; subst hD; exact (hk.block _ (lt_of_block (HL.out.1 D (by simp))) (by simp)).trans (HL.out.1 D (by simp)), HL.out.2⟩)
    have HLW := hid (HLW.out.trans hk)
    have K5 := hid (K5.out.trans hk)
    clear hk
    go_wp2_with fail
    refine (z_eq (num_any _ 1)).mono ?_
    rintro e y2 ⟨rfl, hk⟩
    have HL := hid (show Live w5.heap.size y2 [E] from ⟨by intro D hD; simp at hD; subst hD; exact (hk.block _ (lt_of_block (HL.out.1 D (by simp))) (by simp)).trans (HL.out.1 D (by simp)), HL.out.2⟩)
    have HLW := hid (HLW.out.trans hk)
    have K5 := hid (K5.out.trans hk)
    clear hk
    go_wp2_with fail
    refine (z_eq (num_any _ 1)).mono ?_
    rintro e y3 ⟨rfl, hk⟩
    have HL := hid (show Live w5.heap.size y3 [E] from ⟨by intro D hD; simp at hD; subst hD; exact (hk.block _ (lt_of_block (HL.out.1 D (by simp))) (by simp)).trans (HL.out.1 D (by simp)), HL.out.2⟩)
    have HLW := hid (HLW.out.trans hk)
    have K5 := hid (K5.out.trans hk)
    clear hk
    go_wp2_with fail
    refine (push_zero _ p (HZ.out.keep K5.out) 0 0).mono ?_
    rintro e y4 ⟨rfl, hk⟩
    have HL := hid (show Live w5.heap.size y4 [E] from ⟨by intro D hD; simp at hD; subst hD; exact (hk.block _ (lt_of_block (HL.out.1 D (by simp))) (by simp)).trans (HL.out.1 D (by simp)), HL.out.2⟩)
    have HLW := hid (HLW.out.trans hk)
    have K5 := hid (K5.out.trans hk)
    clear hk
    go_wp2_with fail
    refine (z_eq (num_any _ 1)).mono ?_
    rintro e y5 ⟨rfl, hk⟩
    have HL := hid (show Live w5.heap.size y5 [E] from ⟨by intro D hD; simp at hD; subst hD; exact (hk.block _ (lt_of_block (HL.out.1 D (by simp))) (by simp)).trans (HL.out.1 D (by simp)), HL.out.2⟩)
    have HLW := hid (HLW.out.trans hk)
    have K5 := hid (K5.out.trans hk)
    clear hk
    go_wp2_with fail
    refine (z_eq (unwind_zero _ p (HZ.out.keep K5.out))).mono ?_
    rintro e y6 ⟨rfl, hk⟩
    have HL := hid (show Live w5.heap.size y6 [E] from ⟨by intro D hD; simp at hD; subst hD; exact (hk.block _ (lt_of_block (HL.out.1 D (by simp))) (by simp)).trans (HL.out.1 D (by simp)), HL.out.2⟩)
    have HLW := hid (HLW.out.trans hk)
    have K5 := hid (K5.out.trans hk)
    clear hk
    go_wp2_with fail
    refine (z_eq (num_any _ 1)).mono ?_
    rintro e y7 ⟨rfl, hk⟩
    have HL := hid (show Live w5.heap.size y7 [E] from ⟨by intro D hD; simp at hD; subst hD; exact (hk.block _ (lt_of_block (HL.out.1 D (by simp))) (by simp)).trans (HL.out.1 D (by simp)), HL.out.2⟩)
    have HLW := hid (HLW.out.trans hk)
    have K5 := hid (K5.out.trans hk)
    clear hk
    go_wp2_with fail
    refine (z_asked (HZ.out.keep K5.out)).mono ?_
    rintro e y8 ⟨rfl, hk⟩
    have HL := hid (show Live w5.heap.size y8 [E] from ⟨by intro D hD; simp at hD; subst hD; exact (hk.block _ (lt_of_block (HL.out.1 D (by simp))) (by simp)).trans (HL.out.1 D (by simp)), HL.out.2⟩)
    have HLW := hid (HLW.out.trans hk)
    have K5 := hid (K5.out.trans hk)
    clear hk
    go_wp2_with fail
    refine (z_enabled (HZ.out.keep K5.out)).mono ?_
    rintro e y9 ⟨rfl, hk⟩
    have HL := hid (show Live w5.heap.size y9 [E] from ⟨by intro D hD; simp at hD; subst hD; exact (hk.block _ (lt_of_block (HL.out.1 D (by simp))) (by simp)).trans (HL.out.1 D (by simp)), HL.out.2⟩)
    have HLW := hid (HLW.out.trans hk)
    have K5 := hid (K5.out.trans hk)
    clear hk
    go_wp2_with fail
    refine (z_atonce (HZ.out.keep K5.out)).mono ?_
    rintro e y10 ⟨rfl, hk⟩
    have HL := hid (show Live w5.heap.size y10 [E] from ⟨by intro D hD; simp at hD; subst hD; exact (hk.block _ (lt_of_block (HL.out.1 D (by simp))) (by simp)).trans (HL.out.1 D (by simp)), HL.out.2⟩)
    have HLW := hid (HLW.out.trans hk)
    have K5 := hid (K5.out.trans hk)
    clear hk
    go_wp2_with fail
    refine (z_acts (HZ.out.keep K5.out) true).mono ?_
    rintro e y11 ⟨rfl, hk⟩
    have HL := hid (show Live w5.heap.size y11 [E] from ⟨by intro D hD; simp at hD; subst hD; exact (hk.block _ (lt_of_block (HL.out.1 D (by simp))) (by simp)).trans (HL.out.1 D (by simp)), HL.out.2⟩)
    have HLW := hid (HLW.out.trans hk)
    have K5 := hid (K5.out.trans hk)
    clear hk
    go_wp2_with fail
    refine (z_unwinds (HZ.out.keep K5.out)).mono ?_
    rintro e y12 ⟨rfl, hk⟩
    have HL := hid (show Live w5.heap.size y12 [E] from ⟨by intro D hD; simp at hD; subst hD; exact (hk.block _ (lt_of_block (HL.out.1 D (by simp))) (by simp)).trans (HL.out.1 D (by simp)), HL.out.2⟩)
    have HLW := hid (HLW.out.trans hk)
    have K5 := hid (K5.out.trans hk)
    clear hk
    go_wp2_with fail
    refine (z_len (HZ.out.keep K5.out)).mono ?_
    rintro e y13 ⟨rfl, hk⟩
    have HL := hid (show Live w5.heap.size y13 [E] from ⟨by intro D hD; simp at hD; subst hD; exact (hk.block _ (lt_of_block (HL.out.1 D (by simp))) (by simp)).trans (HL.out.1 D (by simp)), HL.out.2⟩)
    have HLW := hid (HLW.out.trans hk)
    have K5 := hid (K5.out.trans hk)
    clear hk
    go_wp2_with fail
    refine (z_eq (copy_zero _ p (HZ.out.keep K5.out))).mono ?_
    rintro e y14 ⟨rfl, hk⟩
    have HL := hid (show Live w5.heap.size y14 [E] from ⟨by intro D hD; simp at hD; subst hD; exact (hk.block _ (lt_of_block (HL.out.1 D (by simp))) (by simp)).trans (HL.out.1 D (by simp)), HL.out.2⟩)
    have HLW := hid (HLW.out.trans hk)
    have K5 := hid (K5.out.trans hk)
    clear hk
    go_wp2_with fail
    refine (z_same (HZ.out.keep K5.out)).mono ?_
    rintro e y15 ⟨rfl, hk⟩
    have HL := hid (show Live w5.heap.size y15 [E] from ⟨by intro D hD; simp at hD; subst hD; exact (hk.block _ (lt_of_block (HL.out.1 D (by simp))) (by simp)).trans (HL.out.1 D (by simp)), HL.out.2⟩)
    have HLW := hid (HLW.out.trans hk)
    have K5 := hid (K5.out.trans hk)
    clear hk
    have B6 := hid ((K5.out.block _ (lt_of_block HB.out) (by simp)).trans HB.out)
    have c6 := cell_one B6.out
    have f6 := free_one B6.out
    go_wp2
    refine leaves_marks [E] _ (HL.out.set B6.out (.bool true)) ?_
    have KZ := kp_shutR (rows := [rb]) [E] _ (HL.out.set B6.out (.bool true)) (w := W0) (by have := HI.out.lt; have := HS5.out; omega) (K5.out.past' (Kp.setCell y15 ⟨rb, 0, none⟩ (.bool true)))
    have KW : Kp w (shut (y15.setCell ⟨rb, 0, none⟩ (.bool true)) [E]) [] := HK.out.past KZ (by intro k hk hl; have := HRB.out; simp at hk; omega)
    have hcell := cell_one (shut_cells [E] _ (HL.out.set B6.out (.bool true)) (set_one (x := .bool true) B6.out))
    exact ⟨.bool true, by simp [results, Try.results27, go_sem, hcell], rfl, KW⟩
end Go.Proofs.Ytjggpchjfglgcaa
