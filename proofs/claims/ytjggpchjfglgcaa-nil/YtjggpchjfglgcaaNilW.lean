/- CancelNil's walk. -/
import Derived.Test.YtjggpchjfglgcaaNothW
namespace Go.Proofs.Ytjggpchjfglgcaa
open Go.RowKit Go.Shelf
attribute [local go_sem] Oper.semAt_some

/-- So many pushed. -/
def so (i : Nat) : Cn := ⟨false, true, false, false, (List.range i).map fun (j : Nat) => (31, (j : Int))⟩
theorem so_len (i : Nat) : (so i).L.length = i := by simp [so]
theorem so_step (i : Nat) (h : i < 8) : pushE (so i) 31 = 0 ∧ pushM (so i) 31 (i : Int) = so (i + 1) := by
  have hm : mayPr 31 = true := by decide
  have hl : ¬ (so i).L.length = 8 := by rw [so_len]; omega
  refine ⟨by simp [pushE, hm, hl], ?_⟩
  simp only [pushM, hm, hl, if_true, if_false]
  simp [so, List.range_succ]
theorem zc_new (w : World) : Zc (w.alloc (.cells #[.bool false, .bool false, .bool false, .bool false, .bool false, .int .i64 0, .int .i64 0, .int .i64 0, .int .i64 0, .int .i64 0, .int .i64 0, .int .i64 0, .int .i64 0, .int .i64 0, .int .i64 0, .int .i64 0, .int .i64 0, .int .i64 0, .int .i64 0, .int .i64 0, .int .i64 0, .int .i64 0] 59)) (some ⟨w.heap.size, 0, none⟩) := .inr ⟨w.heap.size, _, rfl, heap_alloc_new w _, rfl⟩
/-- Two made here, apart. -/
def K2 (w0 W : World) (cb xb : Nat) (M U : Cn) : Prop := Cc W cb M ∧ Cc W xb U ∧ cb ≠ xb ∧ w0.heap.size ≤ cb ∧ w0.heap.size ≤ xb ∧ Kp w0 W []
section
variable {w0 W W' : World} {cb xb : Nat} {M U M' : Cn}
theorem K2.kp (h : K2 w0 W cb xb M U) : Kp w0 W [] := h.2.2.2.2.2
theorem K2.go (h : K2 w0 W cb xb M U) (hk : Kp W W' []) : K2 w0 W' cb xb M U := ⟨h.1.same hk, h.2.1.same hk, h.2.2.1, h.2.2.2.1, h.2.2.2.2.1, h.2.2.2.2.2.trans hk⟩
theorem K2.swap (h : K2 w0 W cb xb M U) : K2 w0 W xb cb U M := ⟨h.2.1, h.1, Ne.symm h.2.2.1, h.2.2.2.2.1, h.2.2.2.1, h.2.2.2.2.2⟩
theorem K2.did (h : K2 w0 W cb xb M U) (hc : Cc W' cb M') (hk : Kp W W' [cb]) : K2 w0 W' cb xb M' U := ⟨hc, Cw.keep h.2.1 hk (by simpa using Ne.symm h.2.2.1), h.2.2.1, h.2.2.2.1, h.2.2.2.2.1, h.2.2.2.2.2.past hk (fun k hm hl => by have := h.2.2.2.1; simp at hm; omega)⟩
theorem K2.push (h : K2 w0 W cb xb M U) (hl : M.L.length ≤ 8) (x y : Int) {E : Int} (hb : pushE M x = E) (hM : pushM M x y = M') : Calls Try.prog 18 #[.pointer (some ⟨cb, 0, none⟩), .agg #[.int .i64 x, .int .i64 y]] W fun e w' => e = .returned (.int .i64 E) ∧ K2 w0 w' cb xb M' U := by
  subst hb hM
  refine (push_any h.1 hl x y).mono ?_
  rintro e w' ⟨rfl, hc, hk⟩
  exact ⟨rfl, h.did hc hk⟩
theorem K2.pop (h : K2 w0 W cb xb M U) (hl : M.L.length ≤ 8) {E : Int} {V : Int × Int} (hb : popE M = E) (hv : popV M = V) (hM : popM M = M') : Calls Try.prog 19 #[.pointer (some ⟨cb, 0, none⟩)] W fun e w' => e = .returned (.tuple #[.agg #[.int .i64 V.1, .int .i64 V.2], .int .i64 E]) ∧ K2 w0 w' cb xb M' U := by
  subst hb hv hM
  refine (pop_any h.1 hl).mono ?_
  rintro e w' ⟨rfl, hc, hk⟩
  exact ⟨rfl, h.did hc hk⟩
theorem K2.look {f : Nat} {args : Array Value} {v : Value} (h : K2 w0 W cb xb M U) (hc : Calls Try.prog f args W fun e w' => e = .returned v ∧ Kp W w' []) : Calls Try.prog f args W fun e w' => e = .returned v ∧ K2 w0 w' cb xb M U := by
  refine hc.mono ?_
  rintro e w' ⟨rfl, hk⟩
  exact ⟨rfl, h.go hk⟩
end
set_option maxRecDepth 100000 in
set_option maxHeartbeats 8000000 in
theorem nil_walk (w : World) : Calls Try.prog 6 #[] w fun e w' => e = .returned (.bool true) ∧ Kp w w' [] := by
  go_enter Try.func6, Try.ntmps6
  go_wp2_with fail
  refine (new_any w).mono ?_
  rintro e w1 ⟨rfl, hc, hk⟩
  have H1 := hid (show Kd w w1 w.heap.size (so 0) [] from Kd.new (Kp.refl w []) hc hk)
  clear hc hk
  generalize w.heap.size = cb at H1 ⊢
  go_wp2_with fail
  go_loopw [2] (fun v W => ∃ i : Nat, i ≤ 8 ∧ v = .int .i64 i ∧ Hid (Kd w W cb (so i) [])) (fun v _ => 8 - (intOf v).toNat)
  case atStart => exact ⟨0, by omega, rfl, H1⟩
  case round =>
    obtain ⟨i, hi, rfl, hT⟩ := hrel
    clear H1
    by_cases hin : i < 8
    · have hlt : (i : Int) < 8 := by omega
      obtain ⟨e1, e2⟩ := so_step i hin
      have HS := hid (hT.out.push (by rw [so_len]; omega) 31 (i : Int) e1 e2)
      clear e1 e2 hT
      go_wp2_with fail
      refine HS.out.mono ?_
      rintro e w2 ⟨rfl, h2⟩
      have T2 := hid h2
      clear h2 HS
      go_wp2_with fail
      refine (num_any _ _).mono ?_
      rintro e _ ⟨rfl, rfl⟩
      go_wp2
      go_roundw
      case rel => exact ⟨i + 1, by omega, by simp, T2⟩
      case measure => simp [intOf]; omega
    · obtain rfl : i = 8 := by omega
      have h8 : ¬ (((8 : Nat) : Int) < 8) := by omega
      go_wp2_with fail
      refine (new_any _).mono ?_
      rintro e v0 ⟨rfl, hc, hk⟩
      have Q0 := hid (show K2 w v0 cb _ (so 8) newC from ⟨hT.out.cc.same hk, hc, by have := Cw.lt hT.out.cc.cw; omega, hT.out.2.1, hT.out.kp.size, hT.out.kp.trans hk⟩)
      clear hc hk hT
      generalize wr.heap.size = xb at Q0 ⊢
      go_wp2_with fail
      refine (Q0.out.swap.push (by decide) 5 9 (E := 0) (M' := ⟨false, true, false, false, [(5, 9)]⟩) (by kernel_rfl) (by kernel_rfl)).mono ?_
      rintro e v1 ⟨rfl, h⟩
      have Q1 := hid h
      clear h Q0
      go_wp2_with fail
      refine (Q1.out.pop (by decide) (E := 0) (V := (5, 9)) (M' := newC) (by kernel_rfl) (by kernel_rfl) (by kernel_rfl)).mono ?_
      rintro e v2 ⟨rfl, h⟩
      have Q2 := hid h
      clear h Q1
      go_wp2_with fail
      refine (new_any v2).mono ?_
      rintro e v3 ⟨rfl, hc, hk⟩
      have Y := hid hc
      have Q3 := hid (Q2.out.swap.go hk)
      have SX := same_any (Q3.out.2.1).cv Y.out.cv (by decide)
      rw [sameV_self] at SX
      have SX := hid (show Calls Try.prog 12 #[.pointer (some ⟨xb, 0, none⟩), .pointer (some ⟨v2.heap.size, 0, none⟩)] v3 (fun e w' => e = .returned (.bool true) ∧ Kp v3 w' []) from SX)
      clear hc hk Q2
      go_wp2_with fail
      refine (Q3.out.look SX.out).mono ?_
      rintro e v4 ⟨rfl, h⟩
      have Q4 := hid h
      clear h Q3
      clear SX Y
      go_wp2_with fail
      refine (Q4.out.push (by decide) 0 0 (E := 5) (M' := so 8) (by kernel_rfl) (by kernel_rfl)).mono ?_
      rintro e v5 ⟨rfl, h⟩
      have Q5 := hid h
      clear h Q4
      go_wp2_with fail
      refine (Q5.out.push (by decide) (-1) 0 (E := 2) (M' := so 8) (by kernel_rfl) (by kernel_rfl)).mono ?_
      rintro e v6 ⟨rfl, h⟩
      have Q6 := hid h
      clear h Q5
      go_wp2_with fail
      refine (Q6.out.push (by decide) 32 0 (E := 2) (M' := so 8) (by kernel_rfl) (by kernel_rfl)).mono ?_
      rintro e v7 ⟨rfl, h⟩
      have Q7 := hid h
      clear h Q6
      go_wp2_with fail
      refine (Q7.out.look (z_eq (num_any _ 5))).mono ?_
      rintro e v8 ⟨rfl, h⟩
      have Q8 := hid h
      clear h Q7
      go_wp2_with fail
      refine (Q8.out.look (z_eq (num_any _ 2))).mono ?_
      rintro e v9 ⟨rfl, h⟩
      have Q9 := hid h
      clear h Q8
      go_wp2_with fail
      refine (Q9.out.look (z_eq (num_any _ 2))).mono ?_
      rintro e v10 ⟨rfl, h⟩
      have Q10 := hid h
      clear h Q9
      go_wp2_with fail
      refine (Q10.out.look (show Calls Try.prog 24 #[.pointer (some ⟨cb, 0, none⟩)] _ (fun e w' => e = .returned (.int .i64 8) ∧ Kp _ w' []) from len_any (Q10.out.1.cv))).mono ?_
      rintro e v11 ⟨rfl, h⟩
      have Q11 := hid h
      clear h Q10
      go_wp2_with fail
      refine (Q11.out.look (show Calls Try.prog 22 #[.pointer (some ⟨cb, 0, none⟩)] _ (fun e w' => e = .returned (.bool true) ∧ Kp _ w' []) from enabled_any (Q11.out.1.cv))).mono ?_
      rintro e v12 ⟨rfl, h⟩
      have Q12 := hid h
      clear h Q11
      go_wp2_with fail
      refine (Q12.out.look (show Calls Try.prog 23 #[.pointer (some ⟨cb, 0, none⟩)] _ (fun e w' => e = .returned (.bool false) ∧ Kp _ w' []) from atonce_any (Q12.out.1.cv))).mono ?_
      rintro e v13 ⟨rfl, h⟩
      have Q13 := hid h
      clear h Q12
      go_wp2_with fail
      refine (Q13.out.look (show Calls Try.prog 25 #[.pointer (some ⟨cb, 0, none⟩)] _ (fun e w' => e = .returned (.bool false) ∧ Kp _ w' []) from asked_any (Q13.out.1.cv))).mono ?_
      rintro e v14 ⟨rfl, h⟩
      have Q14 := hid h
      clear h Q13
      go_wp2_with fail
      refine (Q14.out.look (show Calls Try.prog 26 #[.pointer (some ⟨cb, 0, none⟩)] _ (fun e w' => e = .returned (.bool false) ∧ Kp _ w' []) from unwinds_any (Q14.out.1.cv))).mono ?_
      rintro e v15 ⟨rfl, h⟩
      have Q15 := hid h
      clear h Q14
      go_wp2_with fail
      refine (Q15.out.look (nothing_any _ none (.inl rfl))).mono ?_
      rintro e v16 ⟨rfl, h⟩
      have Q16 := hid h
      clear h Q15
      go_wp2_with fail
      have QA := hid (Q16.out.go (Kp.alloc v16 (.cells #[.bool false, .bool false, .bool false, .bool false, .bool false, .int .i64 0, .int .i64 0, .int .i64 0, .int .i64 0, .int .i64 0, .int .i64 0, .int .i64 0, .int .i64 0, .int .i64 0, .int .i64 0, .int .i64 0, .int .i64 0, .int .i64 0, .int .i64 0, .int .i64 0, .int .i64 0, .int .i64 0] 59) []))
      refine (QA.out.look (nothing_any _ _ (zc_new v16))).mono ?_
      rintro e v17 ⟨rfl, h⟩
      have Q17 := hid h
      clear h Q16 QA
      go_wp2_with fail
      refine (Q17.out.look (show Calls Try.prog 12 #[.pointer (some ⟨cb, 0, none⟩), .pointer none] _ (fun e w' => e = .returned (.bool false) ∧ Kp _ w' []) from same_any (Q17.out.1.cv) (show Cv _ none zeroC true from Zc.cv (.inl rfl)) (by decide))).mono ?_
      rintro e v18 ⟨rfl, h⟩
      have Q18 := hid h
      clear h Q17
      go_wp2_with fail
      refine (Q18.out.look (known_any _)).mono ?_
      rintro e v19 ⟨rfl, h⟩
      have Q19 := hid h
      clear h Q18
      go_wp2
      go_ret
      exact ⟨rfl, Q19.out.kp⟩
end Go.Proofs.Ytjggpchjfglgcaa
