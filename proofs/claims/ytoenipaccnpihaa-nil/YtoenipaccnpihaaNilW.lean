/- SignalsNil's walk. -/
import Derived.OwnWalkIn
import Derived.Test.YtoenipaccnpihaaNothW
import Derived.Test.YtoenipaccnpihaaKn
namespace Go.Proofs.Ytoenipaccnpihaa
open Go.RowKit Go.Shelf Go.Sort Go.Maps
open Go.Lib hiding intOf
attribute [local go_sem] Oper.semAt_some

/-- So many sent to 15, of 31. -/
def so (i : Nat) : El := (List.range i).map fun (j : Nat) => (15, 31, (j : Int))
theorem so_step : ∀ i : Nat, i < 32 → sendE 16 32 (so i) 15 31 = 0 ∧ sendL 16 32 (so i) 15 31 (i : Int) = so (i + 1) := by decide +kernel
/-- Two made here, apart. -/
def K2 (w0 W : World) (xb yb : Nat) (L1 L2 : El) : Prop := ∃ R1 R2, Sg W xb R1 2 4 (fun _ => 0) L1 ∧ Sg W yb R2 2 4 (fun _ => 0) L2 ∧ (∀ j ∈ R1, j ∉ R2) ∧ (∀ j ∈ R1, w0.heap.size ≤ j) ∧ (∀ j ∈ R2, w0.heap.size ≤ j) ∧ Kp w0 W []
section
variable {w0 W W' : World} {xb yb : Nat} {L1 L2 : El}
theorem K2.kp (h : K2 w0 W xb yb L1 L2) : Kp w0 W [] := by
  obtain ⟨_, _, -, -, -, -, -, h⟩ := h
  exact h
theorem K2.swap (h : K2 w0 W xb yb L1 L2) : K2 w0 W yb xb L2 L1 := by
  obtain ⟨R1, R2, h1, h2, h3, h4, h5, h6⟩ := h
  exact ⟨R2, R1, h2, h1, fun j hj hm => h3 j hm hj, h5, h4, h6⟩
theorem K2.same (h : K2 w0 W xb yb L1 L2) (hk : Kp W W' []) : K2 w0 W' xb yb L1 L2 := by
  obtain ⟨R1, R2, h1, h2, h3, h4, h5, h6⟩ := h
  exact ⟨R1, R2, h1.same hk, h2.same hk, h3, h4, h5, h6.trans hk⟩
theorem K2.send (h : K2 w0 W xb yb L1 L2) (t n v : Int) {E : Int} {L' : El} (hE : sendE 2 4 L1 t n = E) (hL : sendL 2 4 L1 t n v = L') : Calls Try.prog 15 #[.pointer (some ⟨xb, 0, none⟩), .int .i64 t, .int .i64 n, .int .i64 v] W fun e w' => e = .returned (.int .i64 E) ∧ K2 w0 w' xb yb L' L2 := by
  subst hE hL
  obtain ⟨R1, R2, h1, h2, h3, h4, h5, h6⟩ := h
  refine (send_any W xb R1 2 4 _ L1 t n v h1).mono ?_
  rintro e w' ⟨rfl, R', hs, hn, hk⟩
  refine ⟨rfl, R', R2, hs, h2.keep hk (fun j hj hm => h3 j hm hj), fun j hj hm => ?_, fun j hj => ?_, h5, h6.past hk (fun j hj hl => by have := h4 j hj; omega)⟩
  · rcases hn j hj with q | q
    · exact h3 j q hm
    · have := h2.lt j hm; omega
  · rcases hn j hj with q | q
    · exact h4 j q
    · have := h6.size; omega
theorem K2.sames (h : K2 w0 W xb yb L1 L2) {B : Bool} (hB : sameS 2 4 (fun _ => 0) L1 2 4 (fun _ => 0) L2 = B) : Calls Try.prog 13 #[.pointer (some ⟨xb, 0, none⟩), .pointer (some ⟨yb, 0, none⟩)] W fun e w' => e = .returned (.bool B) ∧ Kp W w' [] := by
  subst hB
  obtain ⟨R1, R2, h1, h2, -⟩ := h
  exact same_both W xb yb R1 R2 2 4 2 4 _ _ L1 L2 h1 h2
theorem k2_new {w1 w2 : World} {R1 R2 : List Nat} (h1 : Sg w1 xb R1 2 4 (fun _ => 0) []) (f1 : ∀ k ∈ R1, w0.heap.size ≤ k) (k1 : Kp w0 w1 []) (h2 : Sg w2 yb R2 2 4 (fun _ => 0) []) (f2 : ∀ k ∈ R2, w1.heap.size ≤ k) (k2 : Kp w1 w2 []) : K2 w0 w2 xb yb [] [] := by
  have := k1.size
  exact ⟨R1, R2, h1.same k2, h2, fun j hj hm => by have := h1.lt j hj; have := f2 j hm; omega, f1, fun j hj => by have := f2 j hj; omega, k1.trans k2⟩
end
theorem zs_new (w : World) : Zs (w.alloc (.cells #[.int .i64 0, .int .i64 0, .int .u32 0, .int .u32 0, .int .u32 0, .int .u32 0, .int .u32 0, .int .u32 0, .int .u32 0, .int .u32 0, .int .u32 0, .int .u32 0, .int .u32 0, .int .u32 0, .int .u32 0, .int .u32 0, .int .u32 0, .int .u32 0, .int .u32 0, .int .u32 0, .int .u32 0, .int .u32 0, .int .u32 0, .int .u32 0, .int .u32 0, .int .u32 0, .int .u32 0, .int .u32 0, .int .u32 0, .int .u32 0, .int .u32 0, .int .u32 0, .int .u32 0, .int .u32 0, .map none] 61)) (some ⟨w.heap.size, 0, none⟩) :=
  .inr ⟨w.heap.size, _, rfl, heap_alloc_new w _, rfl⟩
set_option maxRecDepth 100000 in
set_option maxHeartbeats 8000000 in
theorem nil_walk (w : World) : Calls Try.prog 6 #[] w fun e w' => e = .returned (.bool true) ∧ Kp w w' [] := by
  go_enter Try.func6, Try.ntmps6
  go_wp2_with fail
  refine (kw_new w w 16 32 (by decide) (by decide) (by decide) (by decide) (Kp.refl _ _)).mono ?_
  rintro e w1 ⟨sb, rfl, h1⟩
  have H1 := hid h1
  clear h1
  go_wp2_with fail
  go_loopw [3] (fun v W => ∃ i : Nat, i ≤ 32 ∧ v = .int .i64 i ∧ Hid (Kw w W sb 16 32 (fun _ => 0) (so i) [])) (fun v _ => 32 - (intOf v).toNat)
  case atStart => exact ⟨0, by omega, rfl, H1⟩
  case round =>
    obtain ⟨i, hi, rfl, hT⟩ := hrel
    clear H1
    by_cases hin : i < 32
    · have hlt : (i : Int) < 32 := by omega
      obtain ⟨e1, e2⟩ := so_step i hin
      have HS := hid (hT.out.send 15 31 (i : Int) e1 e2)
      clear e1 e2 hT
      go_wp2_with fail
      refine HS.out.mono ?_
      rintro e w2 ⟨rfl, h2⟩
      have T2 := hid h2
      clear h2 HS
      go_wp2_with fail
      refine (num_any _ _).mono ?_
      rintro e _ ⟨rfl, rfl⟩
      go_wp2
      go_roundw
      case rel => exact ⟨i + 1, by omega, by simp, T2⟩
      case measure => simp [intOf]; omega
    · obtain rfl : i = 32 := by omega
      have h32 : ¬ (((32 : Nat) : Int) < 32) := by omega
      go_wp2_with fail
      refine (hT.out.send 0 16 1 (E := 5) (L' := so 32) (by decide +kernel) (by decide +kernel)).mono ?_
      rintro e z1 ⟨rfl, h⟩
      have S1 := hid h
      clear h hT
      go_wp2_with fail
      refine (S1.out.send 0 15 1 (E := 0) (L' := so 32 ++ [(0, 15, 0)]) (by decide +kernel) (by decide +kernel)).mono ?_
      rintro e z2 ⟨rfl, h⟩
      have S2 := hid h
      clear h S1
      go_wp2_with fail
      refine (S2.out.send 0 32 1 (E := 2) (L' := so 32 ++ [(0, 15, 0)]) (by decide +kernel) (by decide +kernel)).mono ?_
      rintro e z3 ⟨rfl, h⟩
      have S3 := hid h
      clear h S2
      go_wp2_with fail
      refine (S3.out.send 16 1 1 (E := 2) (L' := so 32 ++ [(0, 15, 0)]) (by decide +kernel) (by decide +kernel)).mono ?_
      rintro e z4 ⟨rfl, h⟩
      have S4 := hid h
      clear h S3
      go_wp2_with fail
      refine (new_yes z4 2 4 (by decide) (by decide) (by decide) (by decide)).mono ?_
      rintro e y1 ⟨xb, R1, rfl, x1, x2, x3⟩
      have X1 := hid (And.intro x1 (And.intro x2 x3))
      clear x1 x2 x3
      go_wp2_with fail
      refine (new_yes y1 2 4 (by decide) (by decide) (by decide) (by decide)).mono ?_
      rintro e y2 ⟨yb, R2, rfl, x1, x2, x3⟩
      have Q2 := hid (k2_new X1.out.1 X1.out.2.1 X1.out.2.2 x1 x2 x3)
      clear x1 x2 x3 X1
      go_wp2_with fail
      refine (Q2.out.send 0 16 1 (E := 0) (L' := [(0, 16, 1)]) (by decide +kernel) (by decide +kernel)).mono ?_
      rintro e y3 ⟨rfl, h⟩
      have Q3 := hid h
      clear h Q2
      go_wp2_with fail
      refine (Q3.out.send 0 16 2 (E := 0) (L' := [(0, 16, 1), (0, 16, 2)]) (by decide +kernel) (by decide +kernel)).mono ?_
      rintro e y4 ⟨rfl, h⟩
      have Q4 := hid h.swap
      clear h Q3
      go_wp2_with fail
      refine (Q4.out.send 0 16 2 (E := 0) (L' := [(0, 16, 2)]) (by decide +kernel) (by decide +kernel)).mono ?_
      rintro e y5 ⟨rfl, h⟩
      have Q5 := hid h
      clear h Q4
      go_wp2_with fail
      refine (Q5.out.send 0 16 1 (E := 0) (L' := [(0, 16, 2), (0, 16, 1)]) (by decide +kernel) (by decide +kernel)).mono ?_
      rintro e y6 ⟨rfl, h⟩
      have Q6 := hid h.swap
      clear h Q5
      go_wp2_with fail
      refine (Q6.out.sames (B := false) (by decide +kernel)).mono ?_
      rintro e y7 ⟨rfl, h⟩
      have S5 := hid (S4.out.go (Q6.out.kp.trans h))
      clear h Q6 S4
      go_wp2_with fail
      refine (new_no _ 17 1 (by decide)).mono ?_
      rintro e z6 ⟨rfl, h⟩
      have S6 := hid (S5.out.go h)
      clear h S5
      go_wp2_with fail
      refine (new_no _ 1 33 (by decide)).mono ?_
      rintro e z7 ⟨rfl, h⟩
      have S7 := hid (S6.out.go h)
      clear h S6
      go_wp2_with fail
      refine (new_no _ 0 1 (by decide)).mono ?_
      rintro e z8 ⟨rfl, h⟩
      have S8 := hid (S7.out.go h)
      clear h S7
      go_wp2_with fail
      refine (new_no _ 1 0 (by decide)).mono ?_
      rintro e z9 ⟨rfl, h⟩
      have S9 := hid (S8.out.go h)
      clear h S8
      go_wp2_with fail
      refine (S9.out.setmask 15 4294967295 (by decide) (by decide) (u := 0) (M' := upd (fun _ => 0) 15 (noB 4294967295 1)) rfl rfl).mono ?_
      rintro e z10 ⟨rfl, h⟩
      have S10 := hid h
      clear h S9
      go_wp2_with fail
      refine (S10.out.setmask 15 1 (by decide) (by decide) (u := 4294967294) (M' := upd (upd (fun _ => 0) 15 (noB 4294967295 1)) 15 (noB 1 1)) (by decide +kernel) rfl).mono ?_
      rintro e z11 ⟨rfl, h⟩
      have S11 := hid h
      clear h S10
      go_wp2_with fail
      refine (S11.out.clear clear_any 15 (N := 32) (E := 0) (L' := [(0, 15, 0)]) (by decide +kernel) (by decide +kernel) rfl (by decide +kernel)).mono ?_
      rintro e z12 ⟨rfl, h⟩
      have S12 := hid h
      clear h S11
      go_wp2_with fail
      refine (num_any _ _).mono ?_
      rintro e _ ⟨rfl, rfl⟩
      go_wp2_with fail
      refine (num_any _ _).mono ?_
      rintro e _ ⟨rfl, rfl⟩
      go_wp2_with fail
      refine (num_any _ _).mono ?_
      rintro e _ ⟨rfl, rfl⟩
      go_wp2_with fail
      refine (num_any _ _).mono ?_
      rintro e _ ⟨rfl, rfl⟩
      go_wp2_with fail
      refine (num_any _ _).mono ?_
      rintro e _ ⟨rfl, rfl⟩
      go_wp2_with fail
      refine (num_any _ _).mono ?_
      rintro e _ ⟨rfl, rfl⟩
      go_wp2_with fail
      refine (num_any _ _).mono ?_
      rintro e _ ⟨rfl, rfl⟩
      go_wp2_with fail
      refine (num_any _ _).mono ?_
      rintro e _ ⟨rfl, rfl⟩
      go_wp2_with fail
      refine (num_any _ _).mono ?_
      rintro e _ ⟨rfl, rfl⟩
      go_wp2_with fail
      refine (num_any _ _).mono ?_
      rintro e _ ⟨rfl, rfl⟩
      go_wp2_with fail
      refine (num_any _ _).mono ?_
      rintro e _ ⟨rfl, rfl⟩
      go_wp2_with fail
      refine (num_any _ _).mono ?_
      rintro e _ ⟨rfl, rfl⟩
      go_wp2_with fail
      refine (S12.out.used (u := 0) (by decide +kernel)).mono ?_
      rintro e z13 ⟨rfl, h⟩
      have S13 := hid h
      clear h S12
      go_wp2_with fail
      refine (nothing_any z13 none (.inl rfl)).mono ?_
      rintro e z14 ⟨rfl, h⟩
      have S14 := hid (S13.out.go h)
      clear h S13
      go_wp2_with fail
      refine (nothing_any _ _ (zs_new z14)).mono ?_
      rintro e z15 ⟨rfl, h⟩
      have S15 := hid (S14.out.go ((Kp.alloc _ _ _).trans h))
      clear h S14
      go_wp2_with fail
      refine (S15.out.look (f := 13) (args := #[.pointer (some ⟨sb, 0, none⟩), .pointer none]) (v := .bool false) (fun R hs => same_right _ none sb R _ _ _ _ hs (.inl rfl))).mono ?_
      rintro e z16 ⟨rfl, h⟩
      have S16 := hid h
      clear h S15
      go_wp2_with fail
      refine (known_any clear_any _).mono ?_
      rintro e z17 ⟨rfl, h⟩
      have K17 := hid (S16.out.kp.trans h)
      clear h S16
      go_wp2
      go_ret
      exact ⟨rfl, K17.out⟩
end Go.Proofs.Ytoenipaccnpihaa
