/- QueueNil's walk. -/
import Derived.OwnWalkIn
import Derived.Test.YtllkopekfanfaaaNothW
import Derived.Test.YtllkopekfanfaaaKn
namespace Go.Proofs.Ytllkopekfanfaaa
open Go.RowKit Go.Shelf Go.Lib Go.Sort Go.Maps
attribute [local go_sem] Oper.semAt_some

/-- So many sent, of rising priorities. -/
def sn (i : Nat) : Qs := ⟨32, ((List.range i).map fun (j : Nat) => ((j : Int), (j : Int))).reverse, fun _ => none, [], []⟩
theorem sn_step : ∀ i : Nat, i < 32 → sendE (sn i) 15 31 ((i : Int), (i : Int)) = 0 ∧ (sn i).full = false ∧ putM (sn i).L ((i : Int), (i : Int)) = (sn (i + 1)).L := by decide +kernel
theorem sn_send {i : Nat} (h : i < 32) : sendVV (sn i) 15 31 ((i : Int), (i : Int)) = passed true ((i : Int), (i : Int)) (-1) ∧ sendMM (sn i) 15 31 ((i : Int), (i : Int)) = sn (i + 1) := by
  obtain ⟨h1, h2, h3⟩ := sn_step i h
  obtain ⟨h4, h5⟩ := st_send3 h1 rfl h2
  refine ⟨h4, h5.trans ?_⟩
  rw [h3]
  rfl
/-- Three made here, apart. -/
def K3 (w0 W : World) (b1 b2 b3 : Nat) (M1 M2 M3 : Qs) : Prop := ∃ R1 R2 R3, Qc W b1 R1 M1 ∧ Qc W b2 R2 M2 ∧ Qc W b3 R3 M3 ∧ (∀ j ∈ R1, j ∉ R2) ∧ (∀ j ∈ R2, j ∉ R3) ∧ (∀ j ∈ R3, j ∉ R1) ∧ (∀ j ∈ R1, w0.heap.size ≤ j) ∧ (∀ j ∈ R2, w0.heap.size ≤ j) ∧ (∀ j ∈ R3, w0.heap.size ≤ j) ∧ Kp w0 W []
section
variable {w0 W W' : World} {b1 b2 b3 : Nat} {M1 M2 M3 M' : Qs}
theorem K3.kp (h : K3 w0 W b1 b2 b3 M1 M2 M3) : Kp w0 W [] := by
  obtain ⟨_, _, _, -, -, -, -, -, -, -, -, -, h⟩ := h
  exact h
theorem K3.rot (h : K3 w0 W b1 b2 b3 M1 M2 M3) : K3 w0 W b2 b3 b1 M2 M3 M1 := by
  obtain ⟨R1, R2, R3, h1, h2, h3, a1, a2, a3, f1, f2, f3, hk⟩ := h
  exact ⟨R2, R3, R1, h2, h3, h1, a2, a3, a1, f2, f3, f1, hk⟩
theorem K3.same (h : K3 w0 W b1 b2 b3 M1 M2 M3) (hk : Kp W W' []) : K3 w0 W' b1 b2 b3 M1 M2 M3 := by
  obtain ⟨R1, R2, R3, h1, h2, h3, a1, a2, a3, f1, f2, f3, hk0⟩ := h
  exact ⟨R1, R2, R3, h1.same hk, h2.same hk, h3.same hk, a1, a2, a3, f1, f2, f3, hk0.trans hk⟩
theorem K3.call {f : Nat} {args : Array Value} {v : Value} (h : K3 w0 W b1 b2 b3 M1 M2 M3) (hc : ∀ R, Qc W b1 R M1 → Calls Try.prog f args W fun e w' => e = .returned v ∧ To W w' b1 R M') : Calls Try.prog f args W fun e w' => e = .returned v ∧ K3 w0 w' b1 b2 b3 M' M2 M3 := by
  obtain ⟨R1, R2, R3, h1, h2, h3, a1, a2, a3, f1, f2, f3, hk0⟩ := h
  refine (hc R1 h1).mono ?_
  rintro e w' ⟨rfl, R', hs', hn, hk'⟩
  refine ⟨rfl, R', R2, R3, hs', h2.keep hk' (fun j hj hm => a1 j hm hj), h3.keep hk' (fun j hj hm => a3 j hj hm), fun j hj hm => ?_, a2, fun j hj hm => ?_, fun j hj => ?_, f2, f3, hk0.past hk' (fun k hm hl => by have := f1 k hm; omega)⟩
  · rcases hn j hj with q | q
    · exact a1 j q hm
    · have := h2.lt j hm; omega
  · rcases hn j hm with q | q
    · exact a3 j hj q
    · have := h3.lt j hj; omega
  · rcases hn j hj with q | q
    · exact f1 j q
    · have := hk0.size; omega
theorem K3.send (h : K3 w0 W b1 b2 b3 M1 M2 M3) (t p x y : Int) {E : Int} {V : Value} (hi : i64 t) (hE : sendE M1 t p (x, y) = E) (hV : sendVV M1 t p (x, y) = V ∧ sendMM M1 t p (x, y) = M') : Calls Try.prog 15 #[.pointer (some ⟨b1, 0, none⟩), .int .i64 t, .int .i64 p, .agg #[.int .i64 x, .int .i64 y]] W fun e w' => e = .returned (.tuple #[V, .int .i64 E]) ∧ K3 w0 w' b1 b2 b3 M' M2 M3 := by
  obtain ⟨rfl, rfl⟩ := hV
  subst hE
  exact h.call fun R hs => send_yes hs t p (x, y) hi
theorem K3.leave (h : K3 w0 W b1 b2 b3 M1 M2 M3) (t : Int) {E : Int} (hi : i64 t) (hE : leE M1 t = E) (hV : leM M1 t = M') : Calls Try.prog 18 #[.pointer (some ⟨b1, 0, none⟩), .int .i64 t] W fun e w' => e = .returned (.int .i64 E) ∧ K3 w0 w' b1 b2 b3 M' M2 M3 := by
  subst hV hE
  exact h.call fun R hs => leave_yes hs t hi
theorem K3.sames (h : K3 w0 W b1 b2 b3 M1 M2 M3) {B : Bool} (hB : sameQ M1 M2 = B) : Calls Try.prog 13 #[.pointer (some ⟨b1, 0, none⟩), .pointer (some ⟨b2, 0, none⟩)] W fun e w' => e = .returned (.bool B) ∧ Kp W w' [] := by
  subst hB
  obtain ⟨R1, R2, R3, h1, h2, -⟩ := h
  exact qsame W b1 b2 R1 R2 M1 M2 h1 h2
theorem K3.sames3 (h : K3 w0 W b1 b2 b3 M1 M2 M3) {B : Bool} (hB : sameQ M1 M3 = B) : Calls Try.prog 13 #[.pointer (some ⟨b1, 0, none⟩), .pointer (some ⟨b3, 0, none⟩)] W fun e w' => e = .returned (.bool B) ∧ Kp W w' [] := by
  subst hB
  obtain ⟨R1, R2, R3, h1, h2, h3, -⟩ := h
  exact qsame W b1 b3 R1 R3 M1 M3 h1 h3
theorem k3_new {V1 V2 : World} (h : Kq w0 W b1 M1 []) {R2 R3 : List Nat} (h2 : Qc V1 b2 R2 M2) (f2 : ∀ k ∈ R2, W.heap.size ≤ k) (k2 : Kp W V1 []) (h3 : Qc V2 b3 R3 M3) (f3 : ∀ k ∈ R3, V1.heap.size ≤ k) (k3 : Kp V1 V2 []) : K3 w0 V2 b1 b2 b3 M1 M2 M3 := by
  obtain ⟨R1, h1, f1, hk, -⟩ := h
  have s0 := hk.size
  have s2 := k2.size
  have l1 := h1.lt
  have l2 := h2.lt
  exact ⟨R1, R2, R3, (h1.same k2).same k3, h2.same k3, h3, fun j hj hm => by have := l1 j hj; have := f2 j hm; omega, fun j hj hm => by have := l2 j hj; have := f3 j hm; omega, fun j hj hm => by have := f3 j hj; have := l1 j hm; omega, f1, fun j hj => by have := f2 j hj; omega, fun j hj => by have := f3 j hj; omega, (hk.trans k2).trans k3⟩
end
theorem Kq.copy {w0 W : World} {qb : Nat} {M : Qs} {B : Bx} (h : Kq w0 W qb M B) : Calls Try.prog 24 #[.pointer (some ⟨qb, 0, none⟩)] W fun e w' => ∃ cb R', e = .returned (.pointer (some ⟨cb, 0, none⟩)) ∧ Qc w' cb R' M ∧ (∀ k ∈ R', W.heap.size ≤ k) ∧ Kp W w' [] := by
  obtain ⟨R, hs, -⟩ := h
  exact qcopy_yes hs
theorem zq_new (w : World) : Zq (w.alloc (.cells #[.int .i64 0, .slice none 0 0, .map none, .pointer none, .pointer none] 64)) (some ⟨w.heap.size, 0, none⟩) := .inr ⟨w.heap.size, rfl, heap_alloc_new w _⟩
def q1 : Qs := ⟨32, (sn 32).L, (setF (fun _ => none) 0 (some (1, 31))), [(0, 1)], []⟩
def qx0 : Qs := ⟨1, [], fun _ => none, [], []⟩
def qx1 : Qs := ⟨1, [(1, 1)], fun _ => none, [], []⟩
def qx2 : Qs := ⟨1, [(1, 1)], (setF (fun _ => none) 1 (some (2, 2))), [(1, 5)], []⟩
def qy2 : Qs := ⟨1, [(1, 1)], (setF (fun _ => none) 1 (some (3, 2))), [(1, 5)], []⟩
def qx3 : Qs := ⟨1, [(1, 1)], (setF (setF (fun _ => none) 1 (some (2, 2))) 1 none), [], []⟩
set_option maxRecDepth 100000 in
set_option maxHeartbeats 8000000 in
theorem nil_walk (w : World) : Calls Try.prog 6 #[] w fun e w' => e = .returned (.bool true) ∧ Kp w w' [] := by
  go_enter Try.func6, Try.ntmps6
  go_wp2_with fail
  refine (kq_new w w 32 (by omega) (by omega) (Kp.refl _ _)).mono ?_
  rintro e w1 ⟨qb, rfl, h1⟩
  have H1 := hid (show Kq w w1 qb (sn 0) [] from h1)
  clear h1
  go_wp2_with fail
  go_loopw [3] (fun v W => ∃ i : Nat, i ≤ 32 ∧ v = .int .i64 i ∧ Hid (Kq w W qb (sn i) [])) (fun v _ => 32 - (intOf v).toNat)
  case atStart => exact ⟨0, by omega, rfl, H1⟩
  case round =>
    obtain ⟨i, hi, rfl, hT⟩ := hrel
    clear H1
    by_cases hin : i < 32
    · have hlt : (i : Int) < 32 := by omega
      have HI := hid hin
      clear hin
      go_wp2_with fail
      refine (m_any _ (i : Int) (i : Int)).mono ?_
      rintro e u1 ⟨rfl, hk⟩
      have T1 := hid (hT.out.go hk)
      clear hk hT
      go_wp2_with fail
      refine (T1.out.send 15 31 (i : Int) (i : Int) (by unfold i64; omega) (sn_step i HI.out).1 (sn_send HI.out)).mono ?_
      rintro e u2 ⟨rfl, hk⟩
      have T2 := hid hk
      clear hk T1
      unfold passed
      go_wp2_with fail
      refine (num_any _ _).mono ?_
      rintro e _ ⟨rfl, rfl⟩
      have T3 := hid (T2.out.go (Kp.alloc u2 (.cells #[.bool true, .int .i64 i, .int .i64 i, .int .i64 (-1)] 45) []))
      clear T2
      go_wp2
      go_roundw
      case rel => exact ⟨i + 1, by have := HI.out; omega, by simp, T3⟩
      case measure => have := HI.out; simp [intOf]; omega
    · obtain rfl : i = 32 := by omega
      have h32 : ¬ (((32 : Nat) : Int) < 32) := by omega
      have H0 := hid (show Kq w wr qb (sn 32) [] from hT.out)
      clear hT hin
      go_wp2_with fail
      refine (m_any _ 1 31).mono ?_
      rintro e w1 ⟨rfl, hk⟩
      have H1 := hid (H0.out.go hk)
      clear hk H0
      go_wp2_with fail
      refine (H1.out.send 0 1 1 31 (by unfold i64; omega) (V := .agg #[.bool false, .int .i64 1, .int .i64 31, .int .i64 (-1)]) (E := 0) (M' := q1) (by kernel_rfl) (st_send2 (by kernel_rfl) (by kernel_rfl) (by kernel_rfl))).mono ?_
      rintro e w2 ⟨rfl, h2⟩
      have H2 := hid h2
      clear h2 H1
      go_wp2_with fail
      have a2 := H2.out.alloc #[.bool false, .int .i64 1, .int .i64 31, .int .i64 (-1)] 45
      clear H2
      have b2 := a2.box (List.mem_cons_self ..)
      generalize w2.heap.size = x2 at a2 b2 ⊢
      generalize w2.alloc (.cells #[.bool false, .int .i64 1, .int .i64 31, .int .i64 (-1)] 45) = v2 at a2 b2 ⊢
      clear b2
      have H2 := hid a2
      clear a2
      go_wp2_with fail
      refine (m_any _ 1 0).mono ?_
      rintro e w3 ⟨rfl, hk⟩
      have H3 := hid (H2.out.go hk)
      clear hk H2
      go_wp2_with fail
      refine (H3.out.send 0 1 1 0 (by unfold i64; omega) (V := .agg #[.bool false, .int .i64 0, .int .i64 0, .int .i64 0]) (E := 7) (M' := q1) (by kernel_rfl) (st_sendx (by decide))).mono ?_
      rintro e w4 ⟨rfl, h4⟩
      have H4 := hid h4
      clear h4 H3
      go_wp2_with fail
      have a4 := H4.out.alloc #[.bool false, .int .i64 0, .int .i64 0, .int .i64 0] 45
      clear H4
      have b4 := a4.box (List.mem_cons_self ..)
      generalize w4.heap.size = x4 at a4 b4 ⊢
      generalize w4.alloc (.cells #[.bool false, .int .i64 0, .int .i64 0, .int .i64 0] 45) = v4 at a4 b4 ⊢
      clear b4
      have H4 := hid a4
      clear a4
      go_wp2_with fail
      refine (H4.out.recv 0 1 (by unfold i64; omega) (V := .agg #[.bool false, .int .i64 0, .int .i64 0, .int .i64 0]) (E := 7) (M' := q1) (by kernel_rfl) (st_recx (by decide))).mono ?_
      rintro e w5 ⟨rfl, h5⟩
      have H5 := hid h5
      clear h5 H4
      go_wp2_with fail
      have a5 := H5.out.alloc #[.bool false, .int .i64 0, .int .i64 0, .int .i64 0] 45
      clear H5
      have b5 := a5.box (List.mem_cons_self ..)
      generalize w5.heap.size = x5 at a5 b5 ⊢
      generalize w5.alloc (.cells #[.bool false, .int .i64 0, .int .i64 0, .int .i64 0] 45) = v5 at a5 b5 ⊢
      clear b5
      have H5 := hid a5
      clear a5
      go_wp2_with fail
      refine (H5.out.recv 16 1 (by unfold i64; omega) (V := .agg #[.bool false, .int .i64 0, .int .i64 0, .int .i64 0]) (E := 2) (M' := q1) (by kernel_rfl) (st_recx (by decide))).mono ?_
      rintro e w6 ⟨rfl, h6⟩
      have H6 := hid h6
      clear h6 H5
      go_wp2_with fail
      have a6 := H6.out.alloc #[.bool false, .int .i64 0, .int .i64 0, .int .i64 0] 45
      clear H6
      have b6 := a6.box (List.mem_cons_self ..)
      generalize w6.heap.size = x6 at a6 b6 ⊢
      generalize w6.alloc (.cells #[.bool false, .int .i64 0, .int .i64 0, .int .i64 0] 45) = v6 at a6 b6 ⊢
      clear b6
      have H6 := hid a6
      clear a6
      go_wp2_with fail
      refine (H6.out.recv 1 0 (by unfold i64; omega) (V := .agg #[.bool false, .int .i64 0, .int .i64 0, .int .i64 0]) (E := 2) (M' := q1) (by kernel_rfl) (st_recx (by decide))).mono ?_
      rintro e w7 ⟨rfl, h7⟩
      have H7 := hid h7
      clear h7 H6
      go_wp2_with fail
      have a7 := H7.out.alloc #[.bool false, .int .i64 0, .int .i64 0, .int .i64 0] 45
      clear H7
      have b7 := a7.box (List.mem_cons_self ..)
      generalize w7.heap.size = x7 at a7 b7 ⊢
      generalize w7.alloc (.cells #[.bool false, .int .i64 0, .int .i64 0, .int .i64 0] 45) = v7 at a7 b7 ⊢
      clear b7
      have H7 := hid a7
      clear a7
      go_wp2_with fail
      refine (m_any _ 1 (-1)).mono ?_
      rintro e w8 ⟨rfl, hk⟩
      have H8 := hid (H7.out.go hk)
      clear hk H7
      go_wp2_with fail
      refine (H8.out.send 1 1 1 (-1) (by unfold i64; omega) (V := .agg #[.bool false, .int .i64 0, .int .i64 0, .int .i64 0]) (E := 2) (M' := q1) (by kernel_rfl) (st_sendx (by decide))).mono ?_
      rintro e w9 ⟨rfl, h9⟩
      have H9 := hid h9
      clear h9 H8
      go_wp2_with fail
      have a9 := H9.out.alloc #[.bool false, .int .i64 0, .int .i64 0, .int .i64 0] 45
      clear H9
      have b9 := a9.box (List.mem_cons_self ..)
      generalize w9.heap.size = x9 at a9 b9 ⊢
      generalize w9.alloc (.cells #[.bool false, .int .i64 0, .int .i64 0, .int .i64 0] 45) = v9 at a9 b9 ⊢
      clear b9
      have H9 := hid a9
      clear a9
      go_wp2_with fail
      refine (H9.out.leave 1 (by unfold i64; omega) (E := 6) (M' := q1) (by kernel_rfl) (by kernel_rfl)).mono ?_
      rintro e w10 ⟨rfl, h10⟩
      have H10 := hid h10
      clear h10 H9
      go_wp2_with fail
      refine (H10.out.change 0 32 (by unfold i64; omega) (E := 2) (M' := q1) (by kernel_rfl) (by kernel_rfl)).mono ?_
      rintro e w11 ⟨rfl, h11⟩
      have H11 := hid h11
      clear h11 H10
      go_wp2_with fail
      refine (H11.out.leave (-1) (by unfold i64; omega) (E := 2) (M' := q1) (by kernel_rfl) (by kernel_rfl)).mono ?_
      rintro e w12 ⟨rfl, h12⟩
      have H12 := hid h12
      clear h12 H11
      go_wp2_with fail
      refine (kq_new w12 w12 1 (by omega) (by omega) (Kp.refl _ _)).mono ?_
      rintro e z1 ⟨xb, rfl, hx⟩
      have X1 := hid (show Kq w12 z1 xb qx0 [] from hx)
      clear hx
      go_wp2_with fail
      refine (m_any _ 1 1).mono ?_
      rintro e z2 ⟨rfl, hk⟩
      have X2 := hid (X1.out.go hk)
      clear hk X1
      go_wp2_with fail
      refine (X2.out.send 0 1 1 1 (by unfold i64; omega) (V := .agg #[.bool true, .int .i64 1, .int .i64 1, .int .i64 (-1)]) (E := 0) (M' := qx1) (by kernel_rfl) (st_send3 (by kernel_rfl) (by kernel_rfl) (by kernel_rfl))).mono ?_
      rintro e z3 ⟨rfl, hk⟩
      have X3 := hid hk
      clear hk X2
      go_wp2_with fail
      refine X3.out.copy.mono ?_
      rintro e z4 ⟨yb, R2, rfl, a1, a2, a3⟩
      have Y1 := hid (And.intro a1 (And.intro a2 a3))
      clear a1 a2 a3
      go_wp2_with fail
      refine (X3.out.go Y1.out.2.2).copy.mono ?_
      rintro e z5 ⟨zb, R3, rfl, a1, a2, a3⟩
      have D5 := hid (k3_new X3.out Y1.out.1 Y1.out.2.1 Y1.out.2.2 a1 a2 a3)
      clear a1 a2 a3 X3 Y1
      go_wp2_with fail
      refine (m_any _ 2 2).mono ?_
      rintro e z6 ⟨rfl, hk⟩
      have D6 := hid (D5.out.same hk)
      clear hk D5
      go_wp2_with fail
      refine (D6.out.send 1 5 2 2 (by unfold i64; omega) (V := .agg #[.bool false, .int .i64 2, .int .i64 2, .int .i64 (-1)]) (E := 0) (M' := qx2) (by kernel_rfl) (st_send2 (by kernel_rfl) (by kernel_rfl) (by kernel_rfl))).mono ?_
      rintro e z7 ⟨rfl, hk⟩
      have D7 := hid (hk.rot)
      clear hk D6
      go_wp2_with fail
      refine (m_any _ 3 2).mono ?_
      rintro e z8 ⟨rfl, hk⟩
      have D8 := hid (D7.out.same hk)
      clear hk D7
      go_wp2_with fail
      refine (D8.out.send 1 5 3 2 (by unfold i64; omega) (V := .agg #[.bool false, .int .i64 3, .int .i64 2, .int .i64 (-1)]) (E := 0) (M' := qy2) (by kernel_rfl) (st_send2 (by kernel_rfl) (by kernel_rfl) (by kernel_rfl))).mono ?_
      rintro e z9 ⟨rfl, hk⟩
      have D9 := hid (hk.rot.rot)
      clear hk D8
      go_wp2_with fail
      refine (D9.out.sames (B := false) (by kernel_rfl)).mono ?_
      rintro e z10 ⟨rfl, hk⟩
      have D10 := hid (D9.out.same hk)
      clear hk D9
      go_wp2_with fail
      refine (D10.out.leave 1 (by unfold i64; omega) (E := 0) (M' := qx3) (by kernel_rfl) (by kernel_rfl)).mono ?_
      rintro e z11 ⟨rfl, hk⟩
      have D11 := hid (hk)
      clear hk D10
      go_wp2_with fail
      refine (D11.out.sames3 (B := true) (by kernel_rfl)).mono ?_
      rintro e z12 ⟨rfl, hk⟩
      have H13 := hid (H12.out.go (D11.out.kp.trans hk))
      clear hk D11 H12
      have ca := H13.out.box (x := (x2, #[.bool false, .int .i64 1, .int .i64 31, .int .i64 (-1)], 45)) (by simp)
      have ca0 : z12.cell? ⟨x2, 0, none⟩ = some (.bool false) := by simp [World.cell?, ca]
      clear ca
      go_wp2_with fail
      refine (num_any _ _).mono ?_
      rintro e _ ⟨rfl, rfl⟩
      go_wp2_with fail
      refine (num_any _ _).mono ?_
      rintro e _ ⟨rfl, rfl⟩
      go_wp2_with fail
      refine (H13.out.full (b := true) (by kernel_rfl)).mono ?_
      rintro e y1 ⟨rfl, hk⟩
      have H14 := hid hk
      clear hk H13 ca0
      go_wp2_with fail
      refine (num_any _ _).mono ?_
      rintro e _ ⟨rfl, rfl⟩
      go_wp2_with fail
      refine (num_any _ _).mono ?_
      rintro e _ ⟨rfl, rfl⟩
      go_wp2_with fail
      refine (num_any _ _).mono ?_
      rintro e _ ⟨rfl, rfl⟩
      go_wp2_with fail
      refine (num_any _ _).mono ?_
      rintro e _ ⟨rfl, rfl⟩
      go_wp2_with fail
      refine (num_any _ _).mono ?_
      rintro e _ ⟨rfl, rfl⟩
      go_wp2_with fail
      refine (num_any _ _).mono ?_
      rintro e _ ⟨rfl, rfl⟩
      go_wp2_with fail
      refine (num_any _ _).mono ?_
      rintro e _ ⟨rfl, rfl⟩
      go_wp2_with fail
      refine (num_any _ _).mono ?_
      rintro e _ ⟨rfl, rfl⟩
      go_wp2_with fail
      refine (nothing_any _ none (.inl rfl)).mono ?_
      rintro e y2 ⟨rfl, hk⟩
      have H15 := hid (H14.out.go hk)
      clear hk H14
      go_wp2_with fail
      refine (nothing_any _ _ (zq_new y2)).mono ?_
      rintro e y3 ⟨rfl, hk⟩
      have H16 := hid (H15.out.go ((Kp.alloc _ _ _).trans hk))
      clear hk H15
      go_wp2_with fail
      refine (H16.out.look (f := 13) (args := #[.pointer (some ⟨qb, 0, none⟩), .pointer none]) (v := .bool false) (fun R hs => qsame_no _ qb R _ none hs (.inl rfl))).mono ?_
      rintro e y4 ⟨rfl, hk⟩
      have H17 := hid hk
      clear hk H16
      go_wp2_with fail
      refine (known_any _).mono ?_
      rintro e y5 ⟨rfl, hk⟩
      have KZ := hid (H17.out.kp.trans hk)
      clear hk H17
      go_wp2
      go_ret
      exact ⟨rfl, KZ.out⟩
end Go.Proofs.Ytllkopekfanfaaa
