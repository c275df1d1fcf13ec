/- Of a lock that is not there. -/
import Derived.Test.YtcfjlmkeomiiaaaLw
import Derived.Test.YtcfjlmkeomiiaaaLb
namespace Go.Proofs.Ytcfjlmkeomiiaaa
open Go.RowKit Go.Shelf Go.Lib Go.Sort Go.Maps
attribute [local go_sem] Oper.semAt_some

set_option maxRecDepth 100000 in
set_option maxHeartbeats 1000000 in
theorem ltryR_no (w : World) (p : Option Addr) (h : Zl w p) : Calls Try.prog 19 #[.pointer p, .int .i64 0, .int .i64 1] w fun e w' => e = .returned (.tuple #[.bool false, .int .i64 1]) ∧ Kp w w' [] := by
  obtain ⟨kb, cb1, cb2⟩ := boxes_nil w p 0
  obtain ⟨W0, hW0⟩ : ∃ W0, (w.alloc (.cells #[.pointer p] 23)).alloc (.cells #[.int .i64 0] 3) = W0 := ⟨_, rfl⟩
  rw [hW0] at kb cb1 cb2
  have K0 := hid kb
  have CB := hid (fun (z : World) (hk : Kp W0 z []) => And.intro (hk.cell cb1 (by simp)) (hk.cell cb2 (by simp)))
  have HL := hid (fun (z : World) (hk : Kp W0 z []) => h.keep (kb.trans hk))
  have HW := hid hW0
  have T52 := hid (fun z => lthread_kp z 0)
  have T53 := hid (fun z => lprio_kp z 1)
  rw [show mayT 0 = true from rfl] at T52
  rw [show mayP 1 = true from rfl] at T53
  clear kb cb1 cb2 hW0 h
  go_enter Try.func19, Try.ntmps19
  go_wp2_with fail
  rw [HW.out]
  rename_i QQ KK hKK
  refine wp_region_held_drew (S := fun W : World => W.cell? ⟨w.heap.size, 0, none⟩ = some (.pointer p) ∧ W.cell? ⟨w.heap.size + 1, 0, none⟩ = some (.int .i64 0)) (by kernel_rfl) (CB.out _ (Kp.drew _ _)) (fun hHeld => ?_)
  refine wpAnyH_take (i := 0) (v := .pointer p) rfl (by kernel_rfl) (by kernel_rfl) (by kernel_rfl) (fun _ _ _ h => h) (Or.inl ⟨by kernel_rfl, by intro w hSw; obtain ⟨s1, s2⟩ := hSw; go_simp⟩) hHeld ?_
  refine wpAnyH_take (i := 1) (v := .int .i64 0) rfl (by kernel_rfl) (by kernel_rfl) (by kernel_rfl) (fun _ _ _ h => h) (Or.inl ⟨by kernel_rfl, by intro w hSw; obtain ⟨s1, s2⟩ := hSw; go_simp⟩) hHeld ?_
  refine wpAnyH_take (i := 7) (v := .func (.func 54) #[] #[.pointer (some ⟨w.heap.size, 0, none⟩), .pointer (some ⟨w.heap.size + 1, 0, none⟩)]) rfl (by kernel_rfl) (by kernel_rfl) (by kernel_rfl) (fun _ _ _ h => h) (Or.inl ⟨by kernel_rfl, fun w _ => by kernel_rfl⟩) hHeld ?_
  refine wpAnyH_ready (rs := [2]) (by kernel_rfl) (by simp) ?_
  refine AllReadyH.cons rfl (fun K hK => ?_) AllReadyH.nil
  go_simp
  refine (T52.out _).mono ?_
  rintro e z1 ⟨rfl, hk⟩
  have K1 := hid ((Kp.drew W0 []).trans hk)
  clear hk
  go_simp
  refine hK.out _ _ (CB.out _ K1.out) (fun hHeld => ?_)
  refine wpAnyH_take (i := 3) (v := .bool true) rfl (by kernel_rfl) (by kernel_rfl) (by kernel_rfl) (fun _ _ _ h => h) (Or.inl ⟨by kernel_rfl, fun w _ => by kernel_rfl⟩) hHeld ?_
  refine wpAnyH_take (i := 4) (v := .int .i64 1) rfl (by kernel_rfl) (by kernel_rfl) (by kernel_rfl) (fun _ _ _ h => h) (Or.inl ⟨by kernel_rfl, fun w _ => by kernel_rfl⟩) hHeld ?_
  refine wpAnyH_ready (rs := [5]) (by kernel_rfl) (by simp) ?_
  refine AllReadyH.cons rfl (fun K hK => ?_) AllReadyH.nil
  go_simp
  refine (T53.out _).mono ?_
  rintro e z2 ⟨rfl, hk⟩
  have K2 := hid (K1.out.trans hk)
  clear hk
  go_simp
  refine hK.out _ _ (CB.out _ K2.out) (fun hHeld => ?_)
  refine wpAnyH_take (i := 6) (v := .bool true) rfl (by kernel_rfl) (by kernel_rfl) (by kernel_rfl) (fun _ _ _ h => h) (Or.inl ⟨by kernel_rfl, fun w _ => by kernel_rfl⟩) hHeld ?_
  refine wpAnyH_ready (rs := [8]) (by kernel_rfl) (by simp) ?_
  refine AllReadyH.cons rfl (fun K hK => ?_) AllReadyH.nil
  go_simp
  refine (asked_nil _ p true _ (HL.out _ K2.out)).mono ?_
  rintro e z3 ⟨rfl, hw⟩; obtain rfl := hw.symm
  skip
  go_simp
  refine hK.out _ _ (CB.out _ K2.out) (fun hHeld => ?_)
  refine wpAnyH_take (i := 9) (v := .int .i64 1) rfl (by kernel_rfl) (by kernel_rfl) (by kernel_rfl) (fun _ _ _ h => h) (Or.inl ⟨by kernel_rfl, fun w _ => by kernel_rfl⟩) hHeld ?_
  refine wpAnyH_done (by kernel_rfl) ?_ _
  refine hKK _ _ ?_
  go_wp2
  go_ret2
  exact ⟨rfl, K0.out.trans K2.out⟩
set_option maxRecDepth 100000 in
set_option maxHeartbeats 1000000 in
theorem ltryW_no (w : World) (p : Option Addr) (h : Zl w p) : Calls Try.prog 20 #[.pointer p, .int .i64 0, .int .i64 1] w fun e w' => e = .returned (.tuple #[.bool false, .int .i64 1]) ∧ Kp w w' [] := by
  obtain ⟨kb, cb1, cb2⟩ := boxes_nil w p 0
  obtain ⟨W0, hW0⟩ : ∃ W0, (w.alloc (.cells #[.pointer p] 23)).alloc (.cells #[.int .i64 0] 3) = W0 := ⟨_, rfl⟩
  rw [hW0] at kb cb1 cb2
  have K0 := hid kb
  have CB := hid (fun (z : World) (hk : Kp W0 z []) => And.intro (hk.cell cb1 (by simp)) (hk.cell cb2 (by simp)))
  have HL := hid (fun (z : World) (hk : Kp W0 z []) => h.keep (kb.trans hk))
  have HW := hid hW0
  have T52 := hid (fun z => lthread_kp z 0)
  have T53 := hid (fun z => lprio_kp z 1)
  rw [show mayT 0 = true from rfl] at T52
  rw [show mayP 1 = true from rfl] at T53
  clear kb cb1 cb2 hW0 h
  go_enter Try.func20, Try.ntmps20
  go_wp2_with fail
  rw [HW.out]
  rename_i QQ KK hKK
  refine wp_region_held_drew (S := fun W : World => W.cell? ⟨w.heap.size, 0, none⟩ = some (.pointer p) ∧ W.cell? ⟨w.heap.size + 1, 0, none⟩ = some (.int .i64 0)) (by kernel_rfl) (CB.out _ (Kp.drew _ _)) (fun hHeld => ?_)
  refine wpAnyH_take (i := 0) (v := .pointer p) rfl (by kernel_rfl) (by kernel_rfl) (by kernel_rfl) (fun _ _ _ h => h) (Or.inl ⟨by kernel_rfl, by intro w hSw; obtain ⟨s1, s2⟩ := hSw; go_simp⟩) hHeld ?_
  refine wpAnyH_take (i := 1) (v := .int .i64 0) rfl (by kernel_rfl) (by kernel_rfl) (by kernel_rfl) (fun _ _ _ h => h) (Or.inl ⟨by kernel_rfl, by intro w hSw; obtain ⟨s1, s2⟩ := hSw; go_simp⟩) hHeld ?_
  refine wpAnyH_take (i := 7) (v := .func (.func 58) #[] #[.pointer (some ⟨w.heap.size, 0, none⟩), .pointer (some ⟨w.heap.size + 1, 0, none⟩)]) rfl (by kernel_rfl) (by kernel_rfl) (by kernel_rfl) (fun _ _ _ h => h) (Or.inl ⟨by kernel_rfl, fun w _ => by kernel_rfl⟩) hHeld ?_
  refine wpAnyH_ready (rs := [2]) (by kernel_rfl) (by simp) ?_
  refine AllReadyH.cons rfl (fun K hK => ?_) AllReadyH.nil
  go_simp
  refine (T52.out _).mono ?_
  rintro e z1 ⟨rfl, hk⟩
  have K1 := hid ((Kp.drew W0 []).trans hk)
  clear hk
  go_simp
  refine hK.out _ _ (CB.out _ K1.out) (fun hHeld => ?_)
  refine wpAnyH_take (i := 3) (v := .bool true) rfl (by kernel_rfl) (by kernel_rfl) (by kernel_rfl) (fun _ _ _ h => h) (Or.inl ⟨by kernel_rfl, fun w _ => by kernel_rfl⟩) hHeld ?_
  refine wpAnyH_take (i := 4) (v := .int .i64 1) rfl (by kernel_rfl) (by kernel_rfl) (by kernel_rfl) (fun _ _ _ h => h) (Or.inl ⟨by kernel_rfl, fun w _ => by kernel_rfl⟩) hHeld ?_
  refine wpAnyH_ready (rs := [5]) (by kernel_rfl) (by simp) ?_
  refine AllReadyH.cons rfl (fun K hK => ?_) AllReadyH.nil
  go_simp
  refine (T53.out _).mono ?_
  rintro e z2 ⟨rfl, hk⟩
  have K2 := hid (K1.out.trans hk)
  clear hk
  go_simp
  refine hK.out _ _ (CB.out _ K2.out) (fun hHeld => ?_)
  refine wpAnyH_take (i := 6) (v := .bool true) rfl (by kernel_rfl) (by kernel_rfl) (by kernel_rfl) (fun _ _ _ h => h) (Or.inl ⟨by kernel_rfl, fun w _ => by kernel_rfl⟩) hHeld ?_
  refine wpAnyH_ready (rs := [8]) (by kernel_rfl) (by simp) ?_
  refine AllReadyH.cons rfl (fun K hK => ?_) AllReadyH.nil
  go_simp
  refine (asked_nil _ p true _ (HL.out _ K2.out)).mono ?_
  rintro e z3 ⟨rfl, hw⟩; obtain rfl := hw.symm
  skip
  go_simp
  refine hK.out _ _ (CB.out _ K2.out) (fun hHeld => ?_)
  refine wpAnyH_take (i := 9) (v := .int .i64 1) rfl (by kernel_rfl) (by kernel_rfl) (by kernel_rfl) (fun _ _ _ h => h) (Or.inl ⟨by kernel_rfl, fun w _ => by kernel_rfl⟩) hHeld ?_
  refine wpAnyH_done (by kernel_rfl) ?_ _
  refine hKK _ _ ?_
  go_wp2
  go_ret2
  exact ⟨rfl, K0.out.trans K2.out⟩
set_option maxRecDepth 100000 in
theorem or_read_no (w : World) (p : Option Addr) (h : Zl w p) : Calls Try.prog 47 #[.pointer p, .int .i64 0, .int .i64 0, .int .i64 1, .func (.func 19) #[.pointer p] #[]] w fun e w' => e = .returned (.tuple #[.bool false, .int .i64 1]) ∧ Kp w w' [] := by
  have HT := hid (ltryR_no w p h)
  clear h
  go_enter Try.func47, Try.ntmps47
  go_wp2_with fail
  refine HT.out.mono ?_
  rintro e w1 ⟨rfl, hk⟩
  have HK := hid hk
  clear hk
  go_wp2
  go_ret2
  exact ⟨rfl, HK.out⟩
set_option maxRecDepth 100000 in
theorem lread_no (w : World) (p : Option Addr) (h : Zl w p) : Calls Try.prog 15 #[.pointer p, .int .i64 0, .int .i64 1] w fun e w' => e = .returned (.tuple #[.bool false, .int .i64 1]) ∧ Kp w w' [] := by
  have HT := hid (or_read_no w p h)
  clear h
  go_enter Try.func15, Try.ntmps15
  go_wp2_with fail
  refine HT.out.mono ?_
  rintro e w1 ⟨rfl, hk⟩
  have HK := hid hk
  clear hk
  go_wp2
  go_ret2
  exact ⟨rfl, HK.out⟩
set_option maxRecDepth 100000 in
theorem or_write_no (w : World) (p : Option Addr) (h : Zl w p) : Calls Try.prog 47 #[.pointer p, .int .i64 1, .int .i64 0, .int .i64 1, .func (.func 20) #[.pointer p] #[]] w fun e w' => e = .returned (.tuple #[.bool false, .int .i64 1]) ∧ Kp w w' [] := by
  have HT := hid (ltryW_no w p h)
  clear h
  go_enter Try.func47, Try.ntmps47
  go_wp2_with fail
  refine HT.out.mono ?_
  rintro e w1 ⟨rfl, hk⟩
  have HK := hid hk
  clear hk
  go_wp2
  go_ret2
  exact ⟨rfl, HK.out⟩
set_option maxRecDepth 100000 in
theorem lwrite_no (w : World) (p : Option Addr) (h : Zl w p) : Calls Try.prog 16 #[.pointer p, .int .i64 0, .int .i64 1] w fun e w' => e = .returned (.tuple #[.bool false, .int .i64 1]) ∧ Kp w w' [] := by
  have HT := hid (or_write_no w p h)
  clear h
  go_enter Try.func16, Try.ntmps16
  go_wp2_with fail
  refine HT.out.mono ?_
  rintro e w1 ⟨rfl, hk⟩
  have HK := hid hk
  clear hk
  go_wp2
  go_ret2
  exact ⟨rfl, HK.out⟩
set_option maxRecDepth 100000 in
set_option maxHeartbeats 1000000 in
theorem lunlock_no (w : World) (p : Option Addr) (h : Zl w p) : Calls Try.prog 21 #[.pointer p, .int .i64 0] w fun e w' => e = .returned (.tuple #[.slice none 0 0, .int .i64 1]) ∧ Kp w w' [] := by
  obtain ⟨kb, cb1, cb2⟩ := boxes_nil w p 0
  obtain ⟨W0, hW0⟩ : ∃ W0, (w.alloc (.cells #[.pointer p] 23)).alloc (.cells #[.int .i64 0] 3) = W0 := ⟨_, rfl⟩
  rw [hW0] at kb cb1 cb2
  have K0 := hid kb
  have CB := hid (fun (z : World) (hk : Kp W0 z []) => And.intro (hk.cell cb1 (by simp)) (hk.cell cb2 (by simp)))
  have HL := hid (fun (z : World) (hk : Kp W0 z []) => h.keep (kb.trans hk))
  have HW := hid hW0
  have T52 := hid (fun z => lthread_kp z 0)
  rw [show mayT 0 = true from rfl] at T52
  clear kb cb1 cb2 hW0 h
  go_enter Try.func21, Try.ntmps21
  go_wp2_with fail
  rw [HW.out]
  rename_i QQ KK hKK
  refine wp_region_held_drew (S := fun W : World => W.cell? ⟨w.heap.size, 0, none⟩ = some (.pointer p) ∧ W.cell? ⟨w.heap.size + 1, 0, none⟩ = some (.int .i64 0)) (by kernel_rfl) (CB.out _ (Kp.drew _ _)) (fun hHeld => ?_)
  refine wpAnyH_take (i := 0) (v := .pointer p) rfl (by kernel_rfl) (by kernel_rfl) (by kernel_rfl) (fun _ _ _ h => h) (Or.inl ⟨by kernel_rfl, by intro w hSw; obtain ⟨s1, s2⟩ := hSw; go_simp⟩) hHeld ?_
  refine wpAnyH_take (i := 1) (v := .pointer p) rfl (by kernel_rfl) (by kernel_rfl) (by kernel_rfl) (fun _ _ _ h => h) (Or.inl ⟨by kernel_rfl, by intro w hSw; obtain ⟨s1, s2⟩ := hSw; go_simp⟩) hHeld ?_
  refine wpAnyH_take (i := 2) (v := .int .i64 0) rfl (by kernel_rfl) (by kernel_rfl) (by kernel_rfl) (fun _ _ _ h => h) (Or.inl ⟨by kernel_rfl, by intro w hSw; obtain ⟨s1, s2⟩ := hSw; go_simp⟩) hHeld ?_
  refine wpAnyH_take (i := 4) (v := .func (.func 59) #[] #[.pointer (some ⟨w.heap.size, 0, none⟩), .pointer (some ⟨w.heap.size + 1, 0, none⟩)]) rfl (by kernel_rfl) (by kernel_rfl) (by kernel_rfl) (fun _ _ _ h => h) (Or.inl ⟨by kernel_rfl, fun w _ => by kernel_rfl⟩) hHeld ?_
  refine wpAnyH_ready (rs := [3]) (by kernel_rfl) (by simp) ?_
  refine AllReadyH.cons rfl (fun K hK => ?_) AllReadyH.nil
  go_simp
  refine (T52.out _).mono ?_
  rintro e z1 ⟨rfl, hk⟩
  have K1 := hid ((Kp.drew W0 []).trans hk)
  clear hk
  go_simp
  refine hK.out _ _ (CB.out _ K1.out) (fun hHeld => ?_)
  refine wpAnyH_ready (rs := [5]) (by kernel_rfl) (by simp) ?_
  refine AllReadyH.cons rfl (fun K hK => ?_) AllReadyH.nil
  go_simp
  refine (asked_nil _ p true _ (HL.out _ K1.out)).mono ?_
  rintro e z2 ⟨rfl, hw⟩; obtain rfl := hw.symm
  skip
  go_simp
  refine hK.out _ _ (CB.out _ K1.out) (fun hHeld => ?_)
  refine wpAnyH_ready (rs := [6]) (by kernel_rfl) (by simp) ?_
  refine AllReadyH.cons rfl (fun K hK => ?_) AllReadyH.nil
  go_simp
  refine (let_nil _ p 1 (by decide)).mono ?_
  rintro e z3 ⟨rfl, hw⟩; obtain rfl := hw.symm
  skip
  go_simp
  refine hK.out _ _ (CB.out _ K1.out) (fun hHeld => ?_)
  refine wpAnyH_take (i := 7) (v := .slice none 0 0) rfl (by kernel_rfl) (by kernel_rfl) (by kernel_rfl) (fun _ _ _ h => h) (Or.inl ⟨by kernel_rfl, fun w _ => by kernel_rfl⟩) hHeld ?_
  refine wpAnyH_take (i := 8) (v := .int .i64 1) rfl (by kernel_rfl) (by kernel_rfl) (by kernel_rfl) (fun _ _ _ h => h) (Or.inl ⟨by kernel_rfl, fun w _ => by kernel_rfl⟩) hHeld ?_
  refine wpAnyH_take (i := 9) (v := .slice none 0 0) rfl (by kernel_rfl) (by kernel_rfl) (by kernel_rfl) (fun _ _ _ h => h) (Or.inl ⟨by kernel_rfl, fun w _ => by kernel_rfl⟩) hHeld ?_
  refine wpAnyH_take (i := 10) (v := .int .i64 1) rfl (by kernel_rfl) (by kernel_rfl) (by kernel_rfl) (fun _ _ _ h => h) (Or.inl ⟨by kernel_rfl, fun w _ => by kernel_rfl⟩) hHeld ?_
  refine wpAnyH_done (by kernel_rfl) ?_ _
  refine hKK _ _ ?_
  go_wp2
  go_ret2
  exact ⟨rfl, K0.out.trans K1.out⟩
set_option maxRecDepth 100000 in
theorem lleave_no (w : World) (p : Option Addr) (h : Zl w p) : Calls Try.prog 22 #[.pointer p, .int .i64 0] w fun e w' => e = .returned (.tuple #[.slice none 0 0, .int .i64 1]) ∧ w' = w := by
  have HO := hid (lof_nil w p 0 h ⟨by decide, by decide⟩)
  clear h
  go_enter Try.func22, Try.ntmps22
  go_wp2_with fail
  refine HO.out.mono ?_
  rintro e w1 ⟨rfl, hw⟩; obtain rfl := hw.symm
  go_wp2_with fail
  refine (zlv w none 0 (z_none w)).mono ?_
  rintro e w1 ⟨rfl, hw⟩; obtain rfl := hw.symm
  go_wp2_with fail
  refine (let_nil w p 1 (by decide)).mono ?_
  rintro e w1 ⟨rfl, hw⟩; obtain rfl := hw.symm
  go_wp2
  go_ret2
  exact ⟨rfl, rfl⟩
set_option maxRecDepth 100000 in
theorem lchange_no (w : World) (p : Option Addr) (h : Zl w p) : Calls Try.prog 17 #[.pointer p, .int .i64 0, .int .i64 1] w fun e w' => e = .returned (.tuple #[.slice none 0 0, .int .i64 1]) ∧ w' = w := by
  have HO := hid (lof_nil w p 0 h ⟨by decide, by decide⟩)
  clear h
  go_enter Try.func17, Try.ntmps17
  go_wp2_with fail
  refine HO.out.mono ?_
  rintro e w1 ⟨rfl, hw⟩; obtain rfl := hw.symm
  go_wp2_with fail
  refine (zchg w none 0 1 (z_none w)).mono ?_
  rintro e w1 ⟨rfl, hw⟩; obtain rfl := hw.symm
  go_wp2_with fail
  refine (let_nil w p 1 (by decide)).mono ?_
  rintro e w1 ⟨rfl, hw⟩; obtain rfl := hw.symm
  go_wp2
  go_ret2
  exact ⟨rfl, rfl⟩
end Go.Proofs.Ytcfjlmkeomiiaaa
