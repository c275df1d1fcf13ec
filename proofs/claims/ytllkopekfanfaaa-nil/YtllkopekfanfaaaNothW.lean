/- Of a queue that is not there. -/
import Derived.Test.YtllkopekfanfaaaTp
import Derived.Test.YtllkopekfanfaaaSnJ
import Derived.Test.YtllkopekfanfaaaRcJ
import Derived.Test.YtllkopekfanfaaaCc
import Derived.Test.YtllkopekfanfaaaSm
import Derived.Test.YtllkopekfanfaaaDo0J
namespace Go.Proofs.Ytllkopekfanfaaa
open Go.RowKit Go.Shelf Go.Lib Go.Sort Go.Maps
attribute [local go_sem] Oper.semAt_some

theorem fn_ne_nil3 (a : Nat) (W : World) : (binOp .neq 83 (itm a) .nilFunc).run Try.prog W = .ok (.bool true) W := by kernel_rfl
theorem Bp.cells {W : World} {a : Nat} {d : Bool} {x y o : Int} (h : Bp W a d x y o) : W.cell? ⟨a, 0, none⟩ = some (.bool d) ∧ W.cell? ⟨a, 1, none⟩ = some (.int .i64 x) ∧ W.cell? ⟨a, 2, none⟩ = some (.int .i64 y) ∧ W.cell? ⟨a, 3, none⟩ = some (.int .i64 o) := ⟨h.c0, h.c1, h.c2, h.c3⟩
set_option maxRecDepth 100000 in
set_option maxHeartbeats 4000000 in
theorem nothing_any (w : World) (p : Option Addr) (h : Zq w p) : Calls Try.prog 26 #[.pointer p] w fun e w' => e = .returned (.bool true) ∧ Kp w w' [] := by
  have HZ := hid h
  clear h
  go_enter Try.func26, Try.ntmps26
  go_wp2_with fail
  refine (m_any w 1 1).mono ?_
  rintro e w1 ⟨rfl, hk⟩
  have K1 := hid hk
  clear hk
  go_wp2_with fail
  refine (send_no w1 p 0 1 1 1 (HZ.out.keep K1.out)).mono ?_
  rintro e w2 ⟨rfl, hk⟩
  have K2 := hid (K1.out.trans hk)
  clear hk K1
  rw [passed_zero]
  go_wp2_with fail
  have kx := Kp.alloc w2 (.cells #[.bool false, .int .i64 0, .int .i64 0, .int .i64 0] 45) []
  have bx := hid (Bp.new1 w2)
  obtain ⟨a, ha⟩ : ∃ a, w2.heap.size = a := ⟨_, rfl⟩
  obtain ⟨v2, hv2⟩ : ∃ v2, w2.alloc (.cells #[.bool false, .int .i64 0, .int .i64 0, .int .i64 0] 45) = v2 := ⟨_, rfl⟩
  rw [hv2] at kx bx
  rw [ha] at bx
  simp only [hv2, ha]
  have K3 := hid (K2.out.trans kx)
  clear kx hv2 ha K2
  refine (rec_no v2 p 0 1 (HZ.out.keep K3.out)).mono ?_
  rintro e w3 ⟨rfl, hk⟩
  have K4 := hid (K3.out.trans hk)
  have B1 := hid (bx.out.keep hk (by simp))
  clear hk K3 bx
  rw [passed_zero]
  go_wp2_with fail
  have kx := Kp.alloc w3 (.cells #[.bool false, .int .i64 0, .int .i64 0, .int .i64 0] 45) []
  have bx := hid (Bp.new1 w3)
  obtain ⟨b, hb⟩ : ∃ b, w3.heap.size = b := ⟨_, rfl⟩
  obtain ⟨v3, hv3⟩ : ∃ v3, w3.alloc (.cells #[.bool false, .int .i64 0, .int .i64 0, .int .i64 0] 45) = v3 := ⟨_, rfl⟩
  rw [hv3] at kx bx
  rw [hb] at bx
  simp only [hv3, hb]
  have K5 := hid (K4.out.trans kx)
  have B1 := hid (B1.out.keep kx (by simp))
  clear kx hv3 hb K4
  refine (waiting_no v3 p 0 (HZ.out.keep K5.out)).mono ?_
  rintro e w4 ⟨rfl, hk⟩
  have K6 := hid (K5.out.trans hk)
  have B1 := hid (B1.out.keep hk (by simp))
  have B2 := hid (bx.out.keep hk (by simp))
  clear hk K5 bx
  go_wp2_with fail
  refine (top_any w4 p [] (.inr ⟨HZ.out.keep K6.out, rfl⟩)).mono ?_
  rintro e w5 ⟨rfl, hk⟩
  have K7 := hid (K6.out.trans hk)
  have B1 := hid (B1.out.keep hk (by simp))
  have B2 := hid (B2.out.keep hk (by simp))
  clear hk K6
  simp only [List.headD_nil, List.isEmpty_nil, Bool.not_true]
  rw [mv_eq]
  have kx := Kp.alloc w5 (.cells #[.int .i64 0, .int .i64 0] 34) []
  have HW := hid kx
  go_wp2_with fail
  generalize w5.heap.size = bx
  generalize w5.alloc (.cells #[.int .i64 0, .int .i64 0] 34) = v5 at HW kx ⊢
  have K8 := hid (K7.out.trans kx)
  have B1 := hid (B1.out.keep kx (by simp))
  have B2 := hid (B2.out.keep kx (by simp))
  clear kx HW K7
  refine (allM_any v5 p).mono ?_
  rintro e w6 ⟨rfl, hw6⟩
  have hk : Kp v5 w6 [] := by rw [hw6]; exact Kp.alloc _ _ _
  have K9 := hid (K8.out.trans hk)
  have B1 := hid (B1.out.keep hk (by simp))
  have B2 := hid (B2.out.keep hk (by simp))
  clear hk K8 hw6
  generalize v5.heap.size = x6
  go_wp2_with fail
  have q45 := eql45
  obtain ⟨c0, c1, c2, c3⟩ := B1.out.cells
  obtain ⟨d0, d1, d2, d3⟩ := B2.out.cells
  go_wp2_with fail
  rw [fn_ne_nil3]
  go_wp2_with fail
  refine (num_any _ _).mono ?_
  rintro e _ ⟨rfl, rfl⟩
  go_wp2_with fail
  refine (num_any _ _).mono ?_
  rintro e _ ⟨rfl, rfl⟩
  clear c0 c1 c2 c3 d0 d1 d2 d3
  go_wp2_with fail
  refine (leave_no _ p 0 (HZ.out.keep K9.out)).mono ?_
  rintro e y9 ⟨rfl, hk⟩
  have K10 := hid (K9.out.trans hk)
  clear hk
  go_wp2_with fail
  refine (num_any _ _).mono ?_
  rintro e _ ⟨rfl, rfl⟩
  go_wp2_with fail
  refine (change_no _ p 0 1 (HZ.out.keep K10.out)).mono ?_
  rintro e y10 ⟨rfl, hk⟩
  have K11 := hid (K10.out.trans hk)
  clear hk
  go_wp2_with fail
  refine (num_any _ _).mono ?_
  rintro e _ ⟨rfl, rfl⟩
  go_wp2_with fail
  refine (qlen_no _ p (HZ.out.keep K11.out)).mono ?_
  rintro e y11 ⟨rfl, hk⟩
  have K12 := hid (K11.out.trans hk)
  clear hk
  go_wp2_with fail
  refine (room_no _ p (HZ.out.keep K12.out)).mono ?_
  rintro e y12 ⟨rfl, hk⟩
  have K13 := hid (K12.out.trans hk)
  clear hk
  go_wp2_with fail
  refine (full_no _ p (HZ.out.keep K13.out)).mono ?_
  rintro e y13 ⟨rfl, hk⟩
  have K14 := hid (K13.out.trans hk)
  clear hk
  go_wp2_with fail
  refine (senders_no _ p (HZ.out.keep K14.out)).mono ?_
  rintro e y14 ⟨x, rfl, hx, hk⟩
  have K15 := hid (K14.out.trans hk)
  clear hk
  obtain ⟨ao, cap, rfl⟩ := hx.slice
  clear hx
  simp only [List.length_nil]
  go_wp2_with fail
  refine (receivers_no _ p (HZ.out.keep K15.out)).mono ?_
  rintro e y15 ⟨x, rfl, hx, hk⟩
  have K16 := hid (K15.out.trans hk)
  clear hk
  obtain ⟨ao, cap, rfl⟩ := hx.slice
  clear hx
  simp only [List.length_nil]
  go_wp2_with fail
  refine (qcopy_no _ p (HZ.out.keep K16.out)).mono ?_
  rintro e y16 ⟨rfl, hk⟩
  have K17 := hid (K16.out.trans hk)
  clear hk
  go_wp2_with fail
  refine (qsame_nil _ p none (HZ.out.keep K17.out) (.inl rfl)).mono ?_
  rintro e y17 ⟨rfl, hk⟩
  have K18 := hid (K17.out.trans hk)
  clear hk
  go_wp2
  go_ret
  exact ⟨rfl, K18.out⟩
end Go.Proofs.Ytllkopekfanfaaa
