/- Read, Write. -/
import Derived.Test.YtcfjlmkeomiiaaaLu
namespace Go.Proofs.Ytcfjlmkeomiiaaa
open Go.RowKit Go.Shelf Go.Lib Go.Sort Go.Maps
attribute [local go_sem] Oper.semAt_some

set_option maxRecDepth 100000 in
/-- orWait, read. -/
theorem or_read (w : World) (lb : Nat) (R : List Nat) (M : Lk) (t p : Int) (h : Lc w lb R M) (hm : Lmid M) : Calls Try.prog 47 #[.pointer (some ⟨lb, 0, none⟩), .int .i64 0, .int .i64 t, .int .i64 p, .func (.func 19) #[.pointer (some ⟨lb, 0, none⟩)] #[]] w fun e w' => e = .returned (.tuple #[.bool (rdB M t p), .int .i64 (askE M t p false)]) ∧ To w w' lb R (rdM M t p false) := by
  have HT := hid (ltryR w lb R M t p h hm)
  clear h
  by_cases hE : askE M t p false = 0
  · have ha := ask_ok hE
    cases hR : mayR M t p
    · have e1 : rdB M t p = false := by unfold rdB; rw [hE, hR]; rfl
      have e2 : rdM M t p true = M := by unfold rdM; rw [if_pos hE, hR]; rfl
      have e3 : rdM M t p false = { M with r := putL M.r t p } := by unfold rdM; rw [if_pos hE, hR]; rfl
      have e4 : putE M.r t p = 0 := put_ok ha.1 ha.2.1 ha.2.2.1
      rw [e1, e2, hE] at HT
      rw [e1, e3, hE]
      clear e1 e2 e3 hR hE ha hm
      go_enter Try.func47, Try.ntmps47
      go_wp2_with fail
      refine HT.out.mono ?_
      rintro e w1 ⟨rfl, hT⟩
      have H1 := hid hT
      obtain ⟨R1, ⟨mb, a, b, Ra, Rb, rfl, h2⟩, n1, k1⟩ := hT
      have c2 := h2.c2
      have HP := hid (h2.wr.put t p)
      rw [e4] at HP
      have HX := hid (fun (z : World) (R2 : List Nat) (x1 : Wr z a R2 (putL M.r t p)) (x2 : Nw w1 Ra R2) (x3 : Kp w1 z Ra) => (show To w z lb R { M with r := putL M.r t p } from by
        obtain ⟨R3, s3, n3, k3⟩ := to_readers h2 x1 x2 x3
        refine ⟨R3, s3, n1.trans n3 k1.size, k1.past k3 (fun k hk hl => ?_)⟩
        rcases n1 k hk with q | q
        · exact q
        · omega))
      clear h2 n1 k1 e4
      go_wp2_with fail
      refine HP.out.mono ?_
      rintro e w2 ⟨rfl, R2, x1, x2, x3⟩
      have H2 := hid (HX.out w2 R2 x1 x2 x3)
      clear x1 x2 x3
      go_wp2
      go_ret2
      exact ⟨rfl, H2.out⟩
    · have e1 : rdB M t p = true := by unfold rdB; rw [hE, hR]; rfl
      have e2 : ∀ b, rdM M t p b = { M with c := updC M.c t (M.c t.toNat + 1) } := fun b => by unfold rdM; rw [if_pos hE, hR]; rfl
      rw [e1, e2, hE] at HT
      rw [e1, e2, hE]
      clear e1 e2 hR hE ha hm
      go_enter Try.func47, Try.ntmps47
      go_wp2_with fail
      refine HT.out.mono ?_
      rintro e w1 ⟨rfl, hT⟩
      have H1 := hid hT
      clear hT
      go_wp2
      go_ret2
      exact ⟨rfl, H1.out⟩
  · have e1 : rdB M t p = false := by unfold rdB; simp [hE]
    have e2 : ∀ b, rdM M t p b = M := fun b => by unfold rdM; rw [if_neg hE]
    rw [e1, e2] at HT ⊢
    generalize askE M t p false = E at HT hE ⊢
    have hne : (E != 0) = true := by simp [hE]
    clear hE e1 e2 hm
    go_enter Try.func47, Try.ntmps47
    go_wp2_with fail
    refine HT.out.mono ?_
    rintro e w1 ⟨rfl, hT⟩
    have H1 := hid hT
    clear hT
    go_wp2
    go_ret2
    exact ⟨rfl, H1.out⟩
set_option maxRecDepth 100000 in
theorem lread (w : World) (lb : Nat) (R : List Nat) (M : Lk) (t p : Int) (h : Lc w lb R M) (hm : Lmid M) : Calls Try.prog 15 #[.pointer (some ⟨lb, 0, none⟩), .int .i64 t, .int .i64 p] w fun e w' => e = .returned (.tuple #[.bool (rdB M t p), .int .i64 (askE M t p false)]) ∧ To w w' lb R (rdM M t p false) := by
  have HO := hid (or_read w lb R M t p h hm)
  generalize rdB M t p = B at HO ⊢
  generalize askE M t p false = E at HO ⊢
  clear h hm
  go_enter Try.func15, Try.ntmps15
  go_wp2_with fail
  refine HO.out.mono ?_
  rintro e w1 ⟨rfl, hT⟩
  have H1 := hid hT
  clear hT
  go_wp2
  go_ret2
  exact ⟨rfl, H1.out⟩
set_option maxRecDepth 100000 in
/-- orWait, write. -/
theorem or_write (w : World) (lb : Nat) (R : List Nat) (M : Lk) (t p : Int) (h : Lc w lb R M) (hm : Lmid M) : Calls Try.prog 47 #[.pointer (some ⟨lb, 0, none⟩), .int .i64 1, .int .i64 t, .int .i64 p, .func (.func 20) #[.pointer (some ⟨lb, 0, none⟩)] #[]] w fun e w' => e = .returned (.tuple #[.bool (wrB M t p), .int .i64 (askE M t p true)]) ∧ To w w' lb R (wrM M t p false) := by
  have HT := hid (ltryW w lb R M t p h hm)
  clear h
  by_cases hE : askE M t p true = 0
  · have ha := ask_ok hE
    cases hR : heldL M
    · have e1 : wrB M t p = true := by unfold wrB; rw [hE, hR]; rfl
      have e2 : ∀ b, wrM M t p b = { M with w := t } := fun b => by unfold wrM; rw [if_pos hE, hR]; rfl
      rw [e1, e2, hE] at HT
      rw [e1, e2, hE]
      clear e1 e2 hR hE ha hm
      go_enter Try.func47, Try.ntmps47
      go_wp2_with fail
      refine HT.out.mono ?_
      rintro e w1 ⟨rfl, hT⟩
      have H1 := hid hT
      clear hT
      go_wp2
      go_ret2
      exact ⟨rfl, H1.out⟩
    · have e1 : wrB M t p = false := by unfold wrB; rw [hE, hR]; rfl
      have e2 : wrM M t p true = M := by unfold wrM; rw [if_pos hE, hR]; rfl
      have e3 : wrM M t p false = { M with q := putL M.q t p } := by unfold wrM; rw [if_pos hE, hR]; rfl
      have e4 : putE M.q t p = 0 := put_ok ha.1 ha.2.1 ha.2.2.2.1
      rw [e1, e2, hE] at HT
      rw [e1, e3, hE]
      clear e1 e2 e3 hR hE ha hm
      go_enter Try.func47, Try.ntmps47
      go_wp2_with fail
      refine HT.out.mono ?_
      rintro e w1 ⟨rfl, hT⟩
      have H1 := hid hT
      obtain ⟨R1, ⟨mb, a, b, Ra, Rb, rfl, h2⟩, n1, k1⟩ := hT
      have c2 := h2.c3
      have HP := hid (h2.wq.put t p)
      rw [e4] at HP
      have HX := hid (fun (z : World) (R2 : List Nat) (x1 : Wr z b R2 (putL M.q t p)) (x2 : Nw w1 Rb R2) (x3 : Kp w1 z Rb) => (show To w z lb R { M with q := putL M.q t p } from by
        obtain ⟨R3, s3, n3, k3⟩ := to_writers h2 x1 x2 x3
        refine ⟨R3, s3, n1.trans n3 k1.size, k1.past k3 (fun k hk hl => ?_)⟩
        rcases n1 k hk with q | q
        · exact q
        · omega))
      clear h2 n1 k1 e4
      go_wp2_with fail
      refine HP.out.mono ?_
      rintro e w2 ⟨rfl, R2, x1, x2, x3⟩
      have H2 := hid (HX.out w2 R2 x1 x2 x3)
      clear x1 x2 x3
      go_wp2
      go_ret2
      exact ⟨rfl, H2.out⟩
  · have e1 : wrB M t p = false := by unfold wrB; simp [hE]
    have e2 : ∀ b, wrM M t p b = M := fun b => by unfold wrM; rw [if_neg hE]
    rw [e1, e2] at HT ⊢
    generalize askE M t p true = E at HT hE ⊢
    have hne : (E != 0) = true := by simp [hE]
    clear hE e1 e2 hm
    go_enter Try.func47, Try.ntmps47
    go_wp2_with fail
    refine HT.out.mono ?_
    rintro e w1 ⟨rfl, hT⟩
    have H1 := hid hT
    clear hT
    go_wp2
    go_ret2
    exact ⟨rfl, H1.out⟩
set_option maxRecDepth 100000 in
theorem lwrite (w : World) (lb : Nat) (R : List Nat) (M : Lk) (t p : Int) (h : Lc w lb R M) (hm : Lmid M) : Calls Try.prog 16 #[.pointer (some ⟨lb, 0, none⟩), .int .i64 t, .int .i64 p] w fun e w' => e = .returned (.tuple #[.bool (wrB M t p), .int .i64 (askE M t p true)]) ∧ To w w' lb R (wrM M t p false) := by
  have HO := hid (or_write w lb R M t p h hm)
  generalize wrB M t p = B at HO ⊢
  generalize askE M t p true = E at HO ⊢
  clear h hm
  go_enter Try.func16, Try.ntmps16
  go_wp2_with fail
  refine HO.out.mono ?_
  rintro e w1 ⟨rfl, hT⟩
  have H1 := hid hT
  clear hT
  go_wp2
  go_ret2
  exact ⟨rfl, H1.out⟩
end Go.Proofs.Ytcfjlmkeomiiaaa
