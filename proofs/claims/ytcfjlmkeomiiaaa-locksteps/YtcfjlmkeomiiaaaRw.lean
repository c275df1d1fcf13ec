/- The reference's New, ask, Read, Write, Waiting. -/
import Derived.Test.YtcfjlmkeomiiaaaRk
import Derived.Test.YtcfjlmkeomiiaaaLp
namespace Go.Proofs.Ytcfjlmkeomiiaaa
open Go.RowKit Go.Shelf Go.Lib Go.Sort Go.Maps
attribute [local go_sem] Oper.semAt_some

theorem lF_new (a b : Nat) : (vcl (lF newL a b) 19 0).toArray = #[.int .i64 (-1), .int .i64 0, .int .i64 0, .int .i64 0, .int .i64 0, .int .i64 0, .int .i64 0, .int .i64 0, .int .i64 0, .int .i64 0, .int .i64 0, .int .i64 0, .int .i64 0, .int .i64 0, .int .i64 0, .int .i64 0, .int .i64 0, .pointer (some ⟨a, 0, none⟩), .pointer (some ⟨b, 0, none⟩)] := by rfl
set_option maxRecDepth 100000 in
theorem rnew (w : World) : Calls Try.prog 8 #[] w fun e w' => ∃ lb a b, e = .returned (.pointer (some ⟨lb, 0, none⟩)) ∧ Rk w' lb a b newL ∧ w.heap.size ≤ lb ∧ w.heap.size ≤ a ∧ w.heap.size ≤ b ∧ Kp w w' [] := by
  go_enter Try.func8, Try.ntmps8
  go_wp2
  go_ret
  have k1 := Kp.alloc w (.cells #[.slice none 0 0] 62) []
  have k2 := Kp.alloc (w.alloc (.cells #[.slice none 0 0] 62)) (.cells #[.slice none 0 0] 62) []
  have k3 := Kp.alloc ((w.alloc (.cells #[.slice none 0 0] 62)).alloc (.cells #[.slice none 0 0] 62)) (.cells (vcl (lF newL w.heap.size (w.heap.size + 1)) 19 0).toArray 64) []
  have r1 : Rf (w.alloc (.cells #[.slice none 0 0] 62)) w.heap.size [] := ⟨_, heap_alloc_new w _, Dr.nil _ _⟩
  have r2 : Rf ((w.alloc (.cells #[.slice none 0 0] 62)).alloc (.cells #[.slice none 0 0] 62)) (w.heap.size + 1) [] := ⟨_, by
    have := heap_alloc_new (w.alloc (.cells #[.slice none 0 0] 62)) (.cells #[.slice none 0 0] 62)
    rw [show (w.alloc (.cells #[.slice none 0 0] 62)).heap.size = w.heap.size + 1 by simp] at this
    exact this, Dr.nil _ _⟩
  have r3 := heap_alloc_new ((w.alloc (.cells #[.slice none 0 0] 62)).alloc (.cells #[.slice none 0 0] 62)) (.cells (vcl (lF newL w.heap.size (w.heap.size + 1)) 19 0).toArray 64)
  rw [show ((w.alloc (.cells #[.slice none 0 0] 62)).alloc (.cells #[.slice none 0 0] 62)).heap.size = w.heap.size + 2 by simp] at r3
  refine ⟨w.heap.size + 2, w.heap.size, w.heap.size + 1, by simp, ?_, by omega, by omega, by omega, ?_⟩
  · have := (show Rk _ (w.heap.size + 2) w.heap.size (w.heap.size + 1) newL from ⟨r3, (r1.keep k2).keep k3, r2.keep k3, by omega⟩)
    rw [lF_new] at this
    exact this
  · have := (k1.trans k2).trans k3
    rw [lF_new] at this
    exact this
theorem Rk.ci {w : World} {lb a b : Nat} {M : Lk} (h : Rk w lb a b M) {t : Nat} (ht : t < 16) : w.cell? ⟨lb, 1 + t, none⟩ = some (.int .i64 (M.c t)) := h.cc ht
set_option maxRecDepth 100000 in
set_option maxHeartbeats 1000000 in
/-- ask. -/
theorem rask (w : World) (lb a b : Nat) (M : Lk) (t p : Int) (wr : Bool) (h : Rk w lb a b M) (hr : okL M.r) (hq : okL M.q) : Calls Try.prog 61 #[.pointer (some ⟨lb, 0, none⟩), .int .i64 t, .int .i64 p, .bool wr] w fun e w' => e = .returned (.int .i64 (askE M t p wr)) ∧ w' = w := by
  have P0 := hid (rprio_any w a M.r t h.rr hr)
  have P1 := hid (rprio_any w b M.q t h.rq hq)
  have c0 := h.cw
  have c1 := h.cr
  have c2 := h.cq
  by_cases h0 : t < 0
  · rw [show askE M t p wr = 2 by unfold askE; rw [if_neg]; simp [mayT]; omega]
    clear h hr hq
    go_enter Try.func61, Try.ntmps61
    go_wp2
    go_ret
    exact ⟨rfl, rfl⟩
  by_cases h1 : 16 ≤ t
  · rw [show askE M t p wr = 2 by unfold askE; rw [if_neg]; simp [mayT]; omega]
    clear h hr hq
    go_enter Try.func61, Try.ntmps61
    go_wp2
    go_ret
    exact ⟨rfl, rfl⟩
  by_cases h2 : p < 1
  · rw [show askE M t p wr = 2 by unfold askE; rw [if_neg]; simp [mayP]; omega]
    clear h hr hq
    go_enter Try.func61, Try.ntmps61
    go_wp2
    go_ret
    exact ⟨rfl, rfl⟩
  by_cases h3 : 31 < p
  · rw [show askE M t p wr = 2 by unfold askE; rw [if_neg]; simp [mayP]; omega]
    clear h hr hq
    go_enter Try.func61, Try.ntmps61
    go_wp2
    go_ret
    exact ⟨rfl, rfl⟩
  have e : askE M t p wr = if hasP M.r t || hasP M.q t || decide (M.w = t) || (wr && decide (0 < M.c t.toNat)) then 7 else if !wr && decide (32767 ≤ M.c t.toNat) then 5 else 0 := by unfold askE; rw [if_pos]; simp [mayT, mayP]; omega
  rw [e]
  obtain ⟨n, rfl⟩ := int_nat (show 0 ≤ t by omega)
  have hn : n < 16 := by omega
  have cc := h.ci hn
  rw [Int.toNat_natCast]
  generalize hasP M.r n = A at P0 ⊢
  generalize hasP M.q n = B at P1 ⊢
  generalize getP M.r n = GA at P0
  generalize getP M.q n = GB at P1
  generalize M.c n = C at cc ⊢
  generalize M.w = X at c0 ⊢
  clear h hr hq e
  cases A with
  | true =>
    simp only [Bool.true_or, if_true]
    go_enter Try.func61, Try.ntmps61
    go_wp2_with fail
    refine P0.out.mono ?_
    rintro e w1 ⟨rfl, hw⟩; obtain rfl := hw.symm
    go_wp2_with fail
    refine P1.out.mono ?_
    rintro e w1 ⟨rfl, hw⟩; obtain rfl := hw.symm
    go_wp2
    go_ret
    exact ⟨rfl, rfl⟩
  | false =>
    cases B with
    | true =>
      simp only [Bool.true_or, Bool.or_true, if_true]
      go_enter Try.func61, Try.ntmps61
      go_wp2_with fail
      refine P0.out.mono ?_
      rintro e w1 ⟨rfl, hw⟩; obtain rfl := hw.symm
      go_wp2_with fail
      refine P1.out.mono ?_
      rintro e w1 ⟨rfl, hw⟩; obtain rfl := hw.symm
      go_wp2
      go_ret
      exact ⟨rfl, rfl⟩
    | false =>
      by_cases hx : X = n
      · have ex : (X == (n : Int)) = true := by simp [hx]
        rw [decide_eq_true hx]
        simp only [Bool.true_or, Bool.or_true, if_true]
        clear hx
        go_enter Try.func61, Try.ntmps61
        go_wp2_with fail
        refine P0.out.mono ?_
        rintro e w1 ⟨rfl, hw⟩; obtain rfl := hw.symm
        go_wp2_with fail
        refine P1.out.mono ?_
        rintro e w1 ⟨rfl, hw⟩; obtain rfl := hw.symm
        go_wp2
        go_ret
        exact ⟨rfl, rfl⟩
      · have ex : (X == (n : Int)) = false := by simp [hx]
        rw [decide_eq_false hx]
        simp only [Bool.false_or]
        clear hx
        cases wr with
        | true =>
          simp only [Bool.true_and, Bool.not_true, Bool.false_and, Bool.false_eq_true, if_false]
          by_cases hc : 0 < C
          · rw [decide_eq_true hc, if_pos rfl]
            go_enter Try.func61, Try.ntmps61
            go_wp2_with fail
            refine P0.out.mono ?_
            rintro e w1 ⟨rfl, hw⟩; obtain rfl := hw.symm
            go_wp2_with fail
            refine P1.out.mono ?_
            rintro e w1 ⟨rfl, hw⟩; obtain rfl := hw.symm
            go_wp2
            go_ret
            exact ⟨rfl, rfl⟩
          · have hcd : decide (0 < C) = false := decide_eq_false hc
            rw [hcd, if_neg (by simp)]
            go_enter Try.func61, Try.ntmps61
            go_wp2_with fail
            refine P0.out.mono ?_
            rintro e w1 ⟨rfl, hw⟩; obtain rfl := hw.symm
            go_wp2_with fail
            refine P1.out.mono ?_
            rintro e w1 ⟨rfl, hw⟩; obtain rfl := hw.symm
            go_wp2
            go_ret
            exact ⟨rfl, rfl⟩
        | false =>
          simp only [Bool.false_and, Bool.not_false, Bool.true_and, Bool.false_eq_true, if_false]
          by_cases hc : 32767 ≤ C
          · rw [decide_eq_true hc, if_pos rfl]
            go_enter Try.func61, Try.ntmps61
            go_wp2_with fail
            refine P0.out.mono ?_
            rintro e w1 ⟨rfl, hw⟩; obtain rfl := hw.symm
            go_wp2_with fail
            refine P1.out.mono ?_
            rintro e w1 ⟨rfl, hw⟩; obtain rfl := hw.symm
            go_wp2
            go_ret
            exact ⟨rfl, rfl⟩
          · have hcd : decide (32767 ≤ C) = false := decide_eq_false hc
            rw [hcd, if_neg (by simp)]
            go_enter Try.func61, Try.ntmps61
            go_wp2_with fail
            refine P0.out.mono ?_
            rintro e w1 ⟨rfl, hw⟩; obtain rfl := hw.symm
            go_wp2_with fail
            refine P1.out.mono ?_
            rintro e w1 ⟨rfl, hw⟩; obtain rfl := hw.symm
            go_wp2
            go_ret
            exact ⟨rfl, rfl⟩
set_option maxRecDepth 100000 in
/-- Waiting. -/
theorem rwaiting (w : World) (lb a b : Nat) (M : Lk) (t : Int) (h : Rk w lb a b M) (hr : okL M.r) (hq : okL M.q) : Calls Try.prog 37 #[.pointer (some ⟨lb, 0, none⟩), .int .i64 t] w fun e w' => e = .returned (.tuple #[.bool (hasP M.q t), .bool (hasP M.q t || hasP M.r t)]) ∧ w' = w := by
  have P0 := hid (rprio_any w a M.r t h.rr hr)
  have P1 := hid (rprio_any w b M.q t h.rq hq)
  have c1 := h.cr
  have c2 := h.cq
  generalize hasP M.r t = A at P0 ⊢
  generalize hasP M.q t = B at P1 ⊢
  generalize getP M.r t = GA at P0
  generalize getP M.q t = GB at P1
  clear h hr hq
  rw [Bool.or_comm]
  cases A
  all_goals
    go_enter Try.func37, Try.ntmps37
    go_wp2_with fail
    refine P0.out.mono ?_
    rintro e w1 ⟨rfl, hw⟩; obtain rfl := hw.symm
    go_wp2_with fail
    refine P1.out.mono ?_
    rintro e w1 ⟨rfl, hw⟩; obtain rfl := hw.symm
    go_wp2
    go_ret2
    exact ⟨rfl, rfl⟩
set_option maxRecDepth 100000 in
set_option maxHeartbeats 1000000 in
/-- Read. -/
theorem rread (w : World) (lb a b : Nat) (M : Lk) (t p : Int) (try_ : Bool) (h : Rk w lb a b M) (hm : Lmid M) : Calls Try.prog 28 #[.pointer (some ⟨lb, 0, none⟩), .int .i64 t, .int .i64 p, .bool try_] w fun e w' => e = .returned (.tuple #[.bool (rdB M t p), .int .i64 (askE M t p false)]) ∧ Rkt w w' lb a b (rdM M t p try_) := by
  have HA := hid (rask w lb a b M t p false h hm.rk hm.qk)
  have HS := hid (fun (z : World) (hk : Kp w z []) => h.same hk)
  unfold rdB rdM
  by_cases hE : askE M t p false = 0
  · obtain ⟨ht, hp, hr, -, -, -, hc⟩ := ask_ok hE
    rw [hE] at HA
    rw [hE, if_pos rfl, show decide ((0 : Int) = 0) = true from rfl, Bool.true_and]
    have HM := hid (rmayR w lb a b M t p h hm.qk ht.1 ht.2)
    cases hR : mayR M t p
    · rw [hR] at HM
      rw [if_neg (by simp)]
      cases try_ with
      | true =>
        rw [if_pos rfl]
        clear h hm hE ht hp hr hc hR
        go_enter Try.func28, Try.ntmps28
        go_wp2_with fail
        refine HA.out.mono ?_
        rintro e w1 ⟨rfl, hw⟩; obtain rfl := hw.symm
        go_wp2_with fail
        refine HM.out.mono ?_
        rintro e w1 ⟨rfl, hk⟩
        have HK := hid hk
        clear hk
        go_wp2
        go_ret2
        exact ⟨rfl, Rkt.stay (HS.out w (Kp.refl _ _)) HK.out⟩
      | false =>
        rw [if_neg (by simp)]
        have HP := hid (fun (z : World) (hk : Kp w z []) => rput_any z a M.r t p (HS.out z hk).rr hm.rk)
        rw [put_ok ht hp hr] at HP
        have CR := hid (fun (z : World) (hk : Kp w z []) => (HS.out z hk).cr)
        clear h hm hE ht hp hr hc hR
        go_enter Try.func28, Try.ntmps28
        go_wp2_with fail
        refine HA.out.mono ?_
        rintro e w1 ⟨rfl, hw⟩; obtain rfl := hw.symm
        go_wp2_with fail
        refine HM.out.mono ?_
        rintro e w1 ⟨rfl, hk⟩
        have HK := hid hk
        have c1 := CR.out w1 hk
        clear hk
        go_wp2_with fail
        refine (HP.out w1 HK.out).mono ?_
        rintro e w2 ⟨rfl, hT⟩
        have HT := hid ((HS.out w1 HK.out).setR hT)
        clear hT
        go_wp2
        go_ret2
        exact ⟨rfl, HT.out.1, HK.out.nil.trans HT.out.2⟩
    · rw [hR] at HM
      rw [if_pos rfl]
      have hcs := hm.cs t.toNat (by omega)
      obtain ⟨n, rfl⟩ := int_nat ht.1
      have hn : n < 16 := by omega
      rw [Int.toNat_natCast] at hcs ⊢
      have hwr : IntKind.i64.wrap (M.c n + 1) = M.c n + 1 := IntWalk.i64_in _ ⟨by omega, by omega⟩
      have CC := hid (fun (z : World) (hk : Kp w z []) => And.intro ((HS.out z hk).ci hn) ((HS.out z hk).free (1 + n)))
      have HT := hid (fun (z : World) (hk : Kp w z []) => (show Rkt w (z.setCell ⟨lb, 1 + n, none⟩ (.int .i64 (M.c n + 1))) lb a b { M with c := updC M.c n (M.c n + 1) } from by
        have := (HS.out z hk).setC ht.1 ht.2 (M.c n + 1)
        exact ⟨this.1, hk.nil.trans this.2⟩))
      have hn0 : (0 : Int) ≤ n := by omega
      have hn1 : (n : Int) < 16 := by omega
      clear h hm hE ht hp hr hc hR
      generalize ({ M with c := updC M.c n (M.c n + 1) } : Lk) = MM at HT ⊢
      generalize M.c n = C at hcs hwr CC HT
      clear hcs
      go_enter Try.func28, Try.ntmps28
      go_wp2_with fail
      refine HA.out.mono ?_
      rintro e w1 ⟨rfl, hw⟩; obtain rfl := hw.symm
      go_wp2_with fail
      refine HM.out.mono ?_
      rintro e w1 ⟨rfl, hk⟩
      have HK := hid hk
      obtain ⟨c1, f1⟩ := CC.out w1.drew (hk.trans (Kp.drew _ _))
      clear hk
      go_wp2_with fail
      go_region
      all_goals go_wp2
      all_goals go_ret2
      all_goals exact ⟨rfl, HT.out _ (HK.out.trans (Kp.drew _ _))⟩
  · rw [if_neg hE, show decide (askE M t p false = 0) = false by simp [hE], Bool.false_and]
    generalize askE M t p false = E at HA hE ⊢
    have hne : (E != 0) = true := by simp [hE]
    clear h hm hE
    go_enter Try.func28, Try.ntmps28
    go_wp2_with fail
    refine HA.out.mono ?_
    rintro e w1 ⟨rfl, hw⟩; obtain rfl := hw.symm
    go_wp2
    go_ret2
    exact ⟨rfl, Rkt.stay (HS.out w (Kp.refl _ _)) (Kp.refl _ _)⟩
set_option maxRecDepth 100000 in
set_option maxHeartbeats 1000000 in
/-- Write. -/
theorem rwrite (w : World) (lb a b : Nat) (M : Lk) (t p : Int) (try_ : Bool) (h : Rk w lb a b M) (hm : Lmid M) : Calls Try.prog 29 #[.pointer (some ⟨lb, 0, none⟩), .int .i64 t, .int .i64 p, .bool try_] w fun e w' => e = .returned (.tuple #[.bool (wrB M t p), .int .i64 (askE M t p true)]) ∧ Rkt w w' lb a b (wrM M t p try_) := by
  have HA := hid (rask w lb a b M t p true h hm.rk hm.qk)
  have HS := hid h
  unfold wrB wrM
  by_cases hE : askE M t p true = 0
  · obtain ⟨ht, hp, -, hq, -, -, -⟩ := ask_ok hE
    rw [hE] at HA
    rw [hE, if_pos rfl, show decide ((0 : Int) = 0) = true from rfl, Bool.true_and]
    have HM := hid (rheld w lb a b M h)
    cases hR : heldL M
    · rw [hR] at HM
      rw [if_neg (by simp), Bool.not_false]
      have c0 := h.cw
      have f0 := h.free 0
      have HT := hid (h.setW t)
      clear h hm hE ht hp hq hR
      go_enter Try.func29, Try.ntmps29
      go_wp2_with fail
      refine HA.out.mono ?_
      rintro e w1 ⟨rfl, hw⟩; obtain rfl := hw.symm
      go_wp2_with fail
      refine HM.out.mono ?_
      rintro e w1 ⟨rfl, hw⟩; obtain rfl := hw.symm
      go_wp2
      go_ret2
      exact ⟨rfl, HT.out⟩
    · rw [hR] at HM
      rw [if_pos rfl, Bool.not_true]
      cases try_ with
      | true =>
        rw [if_pos rfl]
        clear h hm hE ht hp hq hR
        go_enter Try.func29, Try.ntmps29
        go_wp2_with fail
        refine HA.out.mono ?_
        rintro e w1 ⟨rfl, hw⟩; obtain rfl := hw.symm
        go_wp2_with fail
        refine HM.out.mono ?_
        rintro e w1 ⟨rfl, hw⟩; obtain rfl := hw.symm
        go_wp2
        go_ret2
        exact ⟨rfl, Rkt.stay HS.out (Kp.refl _ _)⟩
      | false =>
        rw [if_neg (by simp)]
        have HP := hid (rput_any w b M.q t p h.rq hm.qk)
        rw [put_ok ht hp hq] at HP
        have c2 := h.cq
        clear h hm hE ht hp hq hR
        go_enter Try.func29, Try.ntmps29
        go_wp2_with fail
        refine HA.out.mono ?_
        rintro e w1 ⟨rfl, hw⟩; obtain rfl := hw.symm
        go_wp2_with fail
        refine HM.out.mono ?_
        rintro e w1 ⟨rfl, hw⟩; obtain rfl := hw.symm
        go_wp2_with fail
        refine HP.out.mono ?_
        rintro e w2 ⟨rfl, hT⟩
        have HT := hid (HS.out.setQ hT)
        clear hT
        go_wp2
        go_ret2
        exact ⟨rfl, HT.out⟩
  · rw [if_neg hE, show decide (askE M t p true = 0) = false by simp [hE], Bool.false_and]
    generalize askE M t p true = E at HA hE ⊢
    have hne : (E != 0) = true := by simp [hE]
    clear h hm hE
    go_enter Try.func29, Try.ntmps29
    go_wp2_with fail
    refine HA.out.mono ?_
    rintro e w1 ⟨rfl, hw⟩; obtain rfl := hw.symm
    go_wp2
    go_ret2
    exact ⟨rfl, Rkt.stay HS.out (Kp.refl _ _)⟩
end Go.Proofs.Ytcfjlmkeomiiaaa
