/- stands: does the queue tell what the document's does? -/
import Derived.Deep.RegionHeldLaw
import Derived.Shelf.RegionOpen
import Derived.Test.YtllkopekfanfaaaDo0J
import Derived.Test.YtllkopekfanfaaaIt
import Derived.Test.YtllkopekfanfaaaMarksJ
namespace Go.Proofs.Ytllkopekfanfaaa
open Go.RowKit Go.Shelf Go.Lib Go.Sort Go.Maps
attribute [local go_sem] Oper.semAt_some

/-- The law's boxes (when to leave, the answer), both. -/
structure Bq (w W : World) (qb rb ax : Nat) (Q : List Nat) (M : Qs) (leave : Int) : Prop where
  bL : W.heap[ax]? = some (.cells #[.int .i64 leave] 3 (0, 0))
  bR : W.heap[ax + 1]? = some (.cells #[.bool false] 4 (0, 0))
  pa : Pa W qb rb Q M
  kp : Kp w W []
section
variable {w W W' : World} {qb rb ax : Nat} {Q : List Nat} {M : Qs} {leave : Int}
theorem Bq.keep (h : Bq w W qb rb ax Q M leave) (hk : Kp W W' []) : Bq w W' qb rb ax Q M leave :=
  ⟨(hk.block _ (lt_of_block h.bL) (by simp)).trans h.bL, (hk.block _ (lt_of_block h.bR) (by simp)).trans h.bR, h.pa.same hk, h.kp.trans hk⟩
/-- What is wanted beside. -/
structure Bv (w W : World) (qb rb ax a4 : Nat) (Q : List Nat) (M : Qs) (leave : Int) (X : Ml) (N : Nat) (ao : Option Addr) (cp : Nat) : Prop where
  q : Bq w W qb rb ax Q M leave
  bW : W.heap[a4]? = some (.cells #[.slice ao N cp] 60 (0, 0))
  ps : Mr W w.heap.size (.slice ao N cp) X
theorem Bv.keep {a4 : Nat} {X : Ml} {N : Nat} {ao : Option Addr} {cp : Nat} (h : Bv w W qb rb ax a4 Q M leave X N ao cp) (hk : Kp W W' []) : Bv w W' qb rb ax a4 Q M leave X N ao cp :=
  ⟨h.q.keep hk, (hk.block _ (lt_of_block h.bW) (by simp)).trans h.bW, h.ps.keep hk⟩
end
theorem Itq.lt {w : World} {x : Nat} {Z : Ml} (h : Itq w x Z) : x < w.heap.size := by
  obtain ⟨p, h1, -⟩ := h.ex
  exact lt_of_block h1
theorem ints_yes (w : World) (b1 b2 : Nat) (v1 v2 : Value) (l : List Int) (h1 : Ns w b1 v1 l) (h2 : Ns w b2 v2 l) (hl : l.length ≤ 100000) : Calls Try.prog 34 #[v1, v2] w fun e w' => e = .returned (.bool true) ∧ Kp w w' [] := by
  refine (ints_any w b1 b2 v1 v2 l l h1 h2 hl).mono ?_
  rintro e w' ⟨rfl, hk⟩
  exact ⟨by simp, hk⟩
theorem neq_bool (B : Bool) (W : World) : (binOp .neq 4 (.bool B) (.bool B)).run Try.prog W = .ok (.bool false) W := by cases B <;> kernel_rfl
theorem below_drew {n : Nat} {A B : World} (h : Below n A B) : Below n A B.drew := ⟨h.os, h.tape, h.output, h.size, h.block⟩
theorem fn_not_nil2 (a : Nat) (W : World) : (binOp .eql 83 (itm a) .nilFunc).run Try.prog W = .ok (.bool false) W := by kernel_rfl
set_option maxRecDepth 100000 in
set_option maxHeartbeats 8000000 in
theorem stands_any (w : World) (qb rb : Nat) (Q : List Nat) (M : Qs) (leave : Int) (h : Pa w qb rb Q M) : Calls Try.prog 12 #[.pointer (some ⟨qb, 0, none⟩), .pointer (some ⟨rb, 0, none⟩), .int .i64 leave] w fun e w' => e = .returned (.bool true) ∧ Kp w w' [] := by
  have hb0 : Bq w ((w.alloc (.cells #[.int .i64 leave] 3)).alloc (.cells #[.bool false] 4)) qb rb w.heap.size Q M leave := by
    have k1 := Kp.alloc w (.cells #[.int .i64 leave] 3) []
    have k2 := Kp.alloc (w.alloc (.cells #[.int .i64 leave] 3)) (.cells #[.bool false] 4) []
    have e1 := heap_alloc_new w (.cells #[.int .i64 leave] 3)
    have e2 := heap_alloc_new (w.alloc (.cells #[.int .i64 leave] 3)) (.cells #[.bool false] 4)
    refine ⟨(k2.block _ (lt_of_block e1) (by simp)).trans e1, by simpa using e2, h.same (k1.trans k2), k1.trans k2⟩
  have HOK := hid h.ok
  obtain ⟨R, sb, tb, Bo, rfl, hs, hr, h3, ok⟩ := h
  have QC := hid (fun (W : World) (hk : Kp w W []) => And.intro (hs.same hk) (hr.same hk))
  clear hs hr h3 ok
  have hlen : M.L.length ≤ 32 := by have := HOK.out.len; have := HOK.out.hi; omega
  obtain ⟨X, hX⟩ : ∃ X, M.L = X := ⟨_, rfl⟩
  obtain ⟨N, hN⟩ : ∃ N, X.length = N := ⟨_, rfl⟩
  rw [hX] at hlen
  rw [hN] at hlen
  have HX := hid hX
  have HN := hid hN
  have HB0 := hid hb0
  clear hX hN hb0
  refine (callsIn_wide (n := 6)).1 ?_
  refine callsIn_of_wp_marks Try.func12 rfl trivial ?_ rfl
  simp only [Try.ntmps12, List.size_toArray, List.length_cons, List.length_nil, Nat.reduceAdd, Nat.reduceSub, Array.replicate_succ, Array.replicate_zero, List.push_toArray, List.append_toArray, List.nil_append, List.cons_append]
  refine wpIn_wide.2 ?_
  go_wp2_with fail
  obtain ⟨W0, hW0⟩ : ∃ W0, (w.alloc (.cells #[.int .i64 leave] 3)).alloc (.cells #[.bool false] 4) = W0 := ⟨_, rfl⟩
  have hb0 := HB0.out
  rw [hW0] at hb0 ⊢
  have hks0 : W0.heap.size = w.heap.size + 2 := by rw [← hW0]; simp
  clear hW0 HB0
  obtain ⟨ax, hax⟩ : ∃ ax, w.heap.size = ax := ⟨_, rfl⟩
  have HAX := hid hax
  rw [hax] at hb0 hks0 ⊢
  have HB0 := hid hb0
  clear hb0 hks0 hax
  have HO := hid (show Calls Try.prog 33 #[.pointer (some ⟨rb, 0, none⟩)] W0 fun e w' => ∃ v, e = .returned v ∧ Mr w' W0.heap.size v M.L ∧ Kp W0 w' [] from by
    obtain ⟨V, Rl, g, -, hi⟩ := (QC.out W0 HB0.out.kp).2
    exact rorderM_any W0 rb sb tb V Rl g M hi)
  refine HO.out.mono ?_
  rintro e W1 ⟨V, rfl, hd, k1⟩
  rw [HX.out] at hd
  obtain ⟨ao, cp, hv⟩ := hd.slice
  rw [HN.out] at hv
  subst hv
  have k2 := Kp.alloc W1 (.cells #[.slice ao N cp] 60) []
  have hs0 := HB0.out.kp.size
  have BX := hid (show Bv w (W1.alloc (.cells #[.slice ao N cp] 60)) qb rb ax W1.heap.size _ M leave X N ao cp from ⟨HB0.out.keep (k1.trans k2), heap_alloc_new W1 _, (hd.keep k2).low hs0⟩)
  obtain ⟨a4, ha4⟩ : ∃ a4, W1.heap.size = a4 := ⟨_, rfl⟩
  obtain ⟨W2, hW2⟩ : ∃ W2, W1.alloc (.cells #[.slice ao N cp] 60) = W2 := ⟨_, rfl⟩
  have HA := hid (show ax + 1 < W1.heap.size from by have := lt_of_block HB0.out.bR; have := k1.size; omega)
  rw [ha4] at HA
  rw [ha4, hW2] at BX
  clear hd k1 k2 hs0 HO HB0
  go_wp2_with fail
  try simp only [hW2, ha4]
  clear hW2 ha4
  have HRI := hid (fun (z : World) (hk : Kp w z []) => (show z.cell? ⟨rb, 0, none⟩ = some (.int .i64 M.n) ∧ z.cell? ⟨rb, 2, none⟩ = some (.pointer (some ⟨sb, 0, none⟩)) ∧ z.cell? ⟨rb, 3, none⟩ = some (.pointer (some ⟨tb, 0, none⟩)) ∧ Rf z sb M.s ∧ Rf z tb M.r from by
    obtain ⟨V, Rl, g, -, hi⟩ := (QC.out z hk).2
    exact ⟨hi.c0, hi.c2, hi.c3, hi.rs, hi.rr⟩))
  have HST := hid (fun (z : World) (hk : Kp W2 z []) => And.intro (cell_one (BX.out.keep hk).bW) (And.intro (HRI.out z (BX.out.q.kp.trans hk)).1 (And.intro (HRI.out z (BX.out.q.kp.trans hk)).2.1 (HRI.out z (BX.out.q.kp.trans hk)).2.2.1)))
  have C1 := hid (fun (z : World) (hk : Kp W2 z []) => qlen_yes (QC.out z (BX.out.q.kp.trans hk)).1)
  have C2 := hid (fun (z : World) (hk : Kp W2 z []) => room_yes (QC.out z (BX.out.q.kp.trans hk)).1)
  have C3 := hid (fun (z : World) (hk : Kp W2 z []) => full_yes (QC.out z (BX.out.q.kp.trans hk)).1)
  have C4 := hid (fun (z : World) (hk : Kp W2 z []) => senders_yes (QC.out z (BX.out.q.kp.trans hk)).1)
  have C5 := hid (fun (z : World) (hk : Kp W2 z []) => receivers_yes (QC.out z (BX.out.q.kp.trans hk)).1)
  have C6 := hid (fun (z : World) (hk : Kp W2 z []) => rlist_any z sb M.s (HRI.out z (BX.out.q.kp.trans hk)).2.2.2.1 HOK.out.s)
  have C7 := hid (fun (z : World) (hk : Kp W2 z []) => rlist_any z tb M.r (HRI.out z (BX.out.q.kp.trans hk)).2.2.2.2 HOK.out.r)
  have hl4 : ((ordL M.s).map (·.1)).length ≤ 100000 := by rw [List.length_map, ord_len HOK.out.s]; have := HOK.out.s.len; omega
  have hl5 : ((ordL M.r).map (·.1)).length ≤ 100000 := by rw [List.length_map, ord_len HOK.out.r]; have := HOK.out.r.len; omega
  have hff : M.full = decide ((N : Int) = M.n) := by unfold Qs.full; rw [HX.out, HN.out]
  have hnl : M.L.length = N := by rw [HX.out, HN.out]
  rw [hnl] at C1 C2
  rw [hff] at C3
  have hlo := HOK.out.lo
  have hhi := HOK.out.hi
  have hln : (N : Int) ≤ M.n := by have := HOK.out.len; rw [hnl] at this; exact this
  generalize (ordL M.s).map (·.1) = l4 at C4 C6 hl4
  generalize (ordL M.r).map (·.1) = l5 at C5 C7 hl5
  obtain ⟨nn, hnn⟩ : ∃ nn, M.n = nn := ⟨_, rfl⟩
  rw [hnn] at HST C2 C3 hlo hhi hln
  have hwr : IntKind.i64.wrap (nn - (N : Int)) = nn - (N : Int) := IntWalk.i64_in _ ⟨by omega, by omega⟩
  obtain ⟨rr, hrr⟩ : ∃ rr, nn - (N : Int) = rr := ⟨_, rfl⟩
  rw [hrr] at C2 hwr
  obtain ⟨ff, hff'⟩ : ∃ ff, ((N : Int) == nn) = ff := ⟨_, rfl⟩
  have hdd : decide ((N : Int) = nn) = ff := by rw [← hff']; rfl
  rw [hdd] at C3
  have b1 : ((N : Int) != (N : Int)) = false := by simp
  have b2 : (rr != rr) = false := by simp
  clear hff hnl hlo hhi hln hnn hdd HRI
  have K0 := hid (Kp.drew W2 [])
  rename_i QQ KK hKK
  refine wp_only ?_
  refine wp_region_held_drew (S := fun W : World => W.cell? ⟨a4, 0, none⟩ = some (.slice ao N cp) ∧ W.cell? ⟨rb, 0, none⟩ = some (.int .i64 nn) ∧ W.cell? ⟨rb, 2, none⟩ = some (.pointer (some ⟨sb, 0, none⟩)) ∧ W.cell? ⟨rb, 3, none⟩ = some (.pointer (some ⟨tb, 0, none⟩))) (by kernel_rfl) (HST.out _ K0.out) (fun hHeld => ?_)
  refine wpAnyH_take (i := 0) (v := .pointer (some ⟨qb, 0, none⟩)) rfl (by kernel_rfl) (by kernel_rfl) (by kernel_rfl) (fun _ _ _ h => h) (Or.inl ⟨by kernel_rfl, fun w _ => by kernel_rfl⟩) hHeld ?_
  refine wpAnyH_take (i := 2) (v := .slice ao N cp) rfl (by kernel_rfl) (by kernel_rfl) (by kernel_rfl) (fun _ _ _ h => h) (Or.inl ⟨by kernel_rfl, by intro w hSw; obtain ⟨s0, s1, s2, s3⟩ := hSw; go_simp⟩) hHeld ?_
  refine wpAnyH_take (i := 3) (v := .int .i64 N) rfl (by kernel_rfl) (by kernel_rfl) (by kernel_rfl) (fun _ _ _ h => h) (Or.inl ⟨by kernel_rfl, fun w _ => by go_simp⟩) hHeld ?_
  refine wpAnyH_ready (rs := [1]) (by kernel_rfl) (by simp) ?_
  refine AllReadyH.cons rfl (fun K hK => ?_) AllReadyH.nil
  go_simp
  refine (C1.out _ K0.out).mono ?_
  rintro e z1 ⟨rfl, hk⟩
  have K1 := hid (K0.out.trans hk)
  clear hk
  go_simp
  refine hK.out _ _ (HST.out _ K1.out) (fun hHeld => ?_)
  refine wpAnyH_take (i := 4) (v := .bool false) rfl (by kernel_rfl) (by kernel_rfl) (by kernel_rfl) (fun _ _ _ h => h) (Or.inl ⟨by kernel_rfl, fun w _ => by go_simp⟩) hHeld ?_
  refine wpAnyH_take (i := 5) (v := .bool false) rfl (by kernel_rfl) (by kernel_rfl) (by kernel_rfl) (fun _ _ _ h => h) (Or.inl ⟨by kernel_rfl, fun w _ => by kernel_rfl⟩) hHeld ?_
  refine wpAnyH_take (i := 6) (v := .pointer (some ⟨qb, 0, none⟩)) rfl (by kernel_rfl) (by kernel_rfl) (by kernel_rfl) (fun _ _ _ h => h) (Or.inl ⟨by kernel_rfl, fun w _ => by kernel_rfl⟩) hHeld ?_
  refine wpAnyH_take (i := 8) (v := .pointer (some ⟨rb, 0, none⟩)) rfl (by kernel_rfl) (by kernel_rfl) (by kernel_rfl) (fun _ _ _ h => h) (Or.inl ⟨by kernel_rfl, fun w _ => by kernel_rfl⟩) hHeld ?_
  refine wpAnyH_take (i := 9) (v := .pointer (some ⟨rb, 0, none⟩)) rfl (by kernel_rfl) (by kernel_rfl) (by kernel_rfl) (fun _ _ _ h => h) (Or.inl ⟨by kernel_rfl, fun w _ => by kernel_rfl⟩) hHeld ?_
  refine wpAnyH_take (i := 10) (v := .pointer (some ⟨rb, 0, none⟩)) rfl (by kernel_rfl) (by kernel_rfl) (by kernel_rfl) (fun _ _ _ h => h) (Or.inl ⟨by kernel_rfl, fun w _ => by kernel_rfl⟩) hHeld ?_
  refine wpAnyH_take (i := 11) (v := .int .i64 nn) rfl (by kernel_rfl) (by kernel_rfl) (by kernel_rfl) (fun _ _ _ h => h) (Or.inl ⟨by kernel_rfl, by intro w hSw; obtain ⟨s0, s1, s2, s3⟩ := hSw; go_simp⟩) hHeld ?_
  refine wpAnyH_take (i := 12) (v := .slice ao N cp) rfl (by kernel_rfl) (by kernel_rfl) (by kernel_rfl) (fun _ _ _ h => h) (Or.inl ⟨by kernel_rfl, by intro w hSw; obtain ⟨s0, s1, s2, s3⟩ := hSw; go_simp⟩) hHeld ?_
  refine wpAnyH_take (i := 13) (v := .int .i64 N) rfl (by kernel_rfl) (by kernel_rfl) (by kernel_rfl) (fun _ _ _ h => h) (Or.inl ⟨by kernel_rfl, fun w _ => by go_simp⟩) hHeld ?_
  refine wpAnyH_take (i := 14) (v := .int .i64 rr) rfl (by kernel_rfl) (by kernel_rfl) (by kernel_rfl) (fun _ _ _ h => h) (Or.inl ⟨by kernel_rfl, fun w _ => by go_simp⟩) hHeld ?_
  refine wpAnyH_ready (rs := [7]) (by kernel_rfl) (by simp) ?_
  refine AllReadyH.cons rfl (fun K hK => ?_) AllReadyH.nil
  go_simp
  refine (C2.out _ K1.out).mono ?_
  rintro e z2 ⟨rfl, hk⟩
  have K2 := hid (K1.out.trans hk)
  clear hk
  go_simp
  refine hK.out _ _ (HST.out _ K2.out) (fun hHeld => ?_)
  refine wpAnyH_take (i := 15) (v := .bool false) rfl (by kernel_rfl) (by kernel_rfl) (by kernel_rfl) (fun _ _ _ h => h) (Or.inl ⟨by kernel_rfl, fun w _ => by go_simp⟩) hHeld ?_
  refine wpAnyH_take (i := 16) (v := .bool false) rfl (by kernel_rfl) (by kernel_rfl) (by kernel_rfl) (fun _ _ _ h => h) (Or.inl ⟨by kernel_rfl, fun w _ => by go_simp⟩) hHeld ?_
  refine wpAnyH_take (i := 17) (v := .bool false) rfl (by kernel_rfl) (by kernel_rfl) (by kernel_rfl) (fun _ _ _ h => h) (Or.inl ⟨by kernel_rfl, fun w _ => by kernel_rfl⟩) hHeld ?_
  refine wpAnyH_take (i := 18) (v := .pointer (some ⟨qb, 0, none⟩)) rfl (by kernel_rfl) (by kernel_rfl) (by kernel_rfl) (fun _ _ _ h => h) (Or.inl ⟨by kernel_rfl, fun w _ => by kernel_rfl⟩) hHeld ?_
  refine wpAnyH_take (i := 20) (v := .slice ao N cp) rfl (by kernel_rfl) (by kernel_rfl) (by kernel_rfl) (fun _ _ _ h => h) (Or.inl ⟨by kernel_rfl, by intro w hSw; obtain ⟨s0, s1, s2, s3⟩ := hSw; go_simp⟩) hHeld ?_
  refine wpAnyH_take (i := 21) (v := .int .i64 N) rfl (by kernel_rfl) (by kernel_rfl) (by kernel_rfl) (fun _ _ _ h => h) (Or.inl ⟨by kernel_rfl, fun w _ => by go_simp⟩) hHeld ?_
  refine wpAnyH_take (i := 22) (v := .pointer (some ⟨rb, 0, none⟩)) rfl (by kernel_rfl) (by kernel_rfl) (by kernel_rfl) (fun _ _ _ h => h) (Or.inl ⟨by kernel_rfl, fun w _ => by kernel_rfl⟩) hHeld ?_
  refine wpAnyH_take (i := 23) (v := .pointer (some ⟨rb, 0, none⟩)) rfl (by kernel_rfl) (by kernel_rfl) (by kernel_rfl) (fun _ _ _ h => h) (Or.inl ⟨by kernel_rfl, fun w _ => by kernel_rfl⟩) hHeld ?_
  refine wpAnyH_take (i := 24) (v := .pointer (some ⟨rb, 0, none⟩)) rfl (by kernel_rfl) (by kernel_rfl) (by kernel_rfl) (fun _ _ _ h => h) (Or.inl ⟨by kernel_rfl, fun w _ => by kernel_rfl⟩) hHeld ?_
  refine wpAnyH_take (i := 25) (v := .int .i64 nn) rfl (by kernel_rfl) (by kernel_rfl) (by kernel_rfl) (fun _ _ _ h => h) (Or.inl ⟨by kernel_rfl, by intro w hSw; obtain ⟨s0, s1, s2, s3⟩ := hSw; go_simp⟩) hHeld ?_
  refine wpAnyH_take (i := 26) (v := .bool ff) rfl (by kernel_rfl) (by kernel_rfl) (by kernel_rfl) (fun _ _ _ h => h) (Or.inl ⟨by kernel_rfl, fun w _ => by go_simp⟩) hHeld ?_
  refine wpAnyH_ready (rs := [19]) (by kernel_rfl) (by simp) ?_
  refine AllReadyH.cons rfl (fun K hK => ?_) AllReadyH.nil
  go_simp
  refine (C3.out _ K2.out).mono ?_
  rintro e z3 ⟨rfl, hk⟩
  have K3 := hid (K2.out.trans hk)
  clear hk
  go_simp
  refine hK.out _ _ (HST.out _ K3.out) (fun hHeld => ?_)
  refine wpAnyH_take (i := 27) (v := .bool false) rfl (by kernel_rfl) (by kernel_rfl) (by kernel_rfl) (fun _ _ _ h => h) (Or.inl ⟨by kernel_rfl, fun w _ => by have := neq_bool ff; go_simp⟩) hHeld ?_
  refine wpAnyH_take (i := 28) (v := .bool false) rfl (by kernel_rfl) (by kernel_rfl) (by kernel_rfl) (fun _ _ _ h => h) (Or.inl ⟨by kernel_rfl, fun w _ => by go_simp⟩) hHeld ?_
  refine wpAnyH_take (i := 29) (v := .bool false) rfl (by kernel_rfl) (by kernel_rfl) (by kernel_rfl) (fun _ _ _ h => h) (Or.inl ⟨by kernel_rfl, fun w _ => by kernel_rfl⟩) hHeld ?_
  refine wpAnyH_take (i := 30) (v := .pointer (some ⟨qb, 0, none⟩)) rfl (by kernel_rfl) (by kernel_rfl) (by kernel_rfl) (fun _ _ _ h => h) (Or.inl ⟨by kernel_rfl, fun w _ => by kernel_rfl⟩) hHeld ?_
  refine wpAnyH_take (i := 32) (v := .pointer (some ⟨rb, 0, none⟩)) rfl (by kernel_rfl) (by kernel_rfl) (by kernel_rfl) (fun _ _ _ h => h) (Or.inl ⟨by kernel_rfl, fun w _ => by kernel_rfl⟩) hHeld ?_
  refine wpAnyH_take (i := 33) (v := .pointer (some ⟨rb, 0, none⟩)) rfl (by kernel_rfl) (by kernel_rfl) (by kernel_rfl) (fun _ _ _ h => h) (Or.inl ⟨by kernel_rfl, fun w _ => by kernel_rfl⟩) hHeld ?_
  refine wpAnyH_take (i := 34) (v := .pointer (some ⟨rb, 2, none⟩)) rfl (by kernel_rfl) (by kernel_rfl) (by kernel_rfl) (fun _ _ _ h => h) (Or.inl ⟨by kernel_rfl, fun w _ => by kernel_rfl⟩) hHeld ?_
  refine wpAnyH_take (i := 35) (v := .pointer (some ⟨sb, 0, none⟩)) rfl (by kernel_rfl) (by kernel_rfl) (by kernel_rfl) (fun _ _ _ h => h) (Or.inl ⟨by kernel_rfl, by intro w hSw; obtain ⟨s0, s1, s2, s3⟩ := hSw; go_simp⟩) hHeld ?_
  refine wpAnyH_ready (rs := [31]) (by kernel_rfl) (by simp) ?_
  refine AllReadyH.cons rfl (fun K hK => ?_) AllReadyH.nil
  go_simp
  refine (C4.out _ K3.out).mono ?_
  rintro e z4 ⟨xl4, rfl, hX, hk⟩
  have HXl4 := hid hX
  clear hX
  have K4 := hid (K3.out.trans hk)
  clear hk
  go_simp
  refine hK.out _ _ (HST.out _ K4.out) (fun hHeld => ?_)
  refine wpAnyH_ready (rs := [36]) (by kernel_rfl) (by simp) ?_
  refine AllReadyH.cons rfl (fun K hK => ?_) AllReadyH.nil
  go_simp
  refine (C6.out _ K4.out).mono ?_
  rintro e z5 ⟨yl4, rfl, hY, hk⟩
  have HXl4 := hid (HXl4.out.keep hk)
  have HYl4 := hid hY
  clear hY
  have K5 := hid (K4.out.trans hk)
  clear hk
  go_simp
  refine hK.out _ _ (HST.out _ K5.out) (fun hHeld => ?_)
  refine wpAnyH_ready (rs := [37]) (by kernel_rfl) (by simp) ?_
  refine AllReadyH.cons rfl (fun K hK => ?_) AllReadyH.nil
  go_simp
  refine (ints_yes _ _ _ xl4 yl4 l4 HXl4.out HYl4.out hl4).mono ?_
  rintro e z6 ⟨rfl, hk⟩
  have K6 := hid (K5.out.trans hk)
  clear hk
  go_simp
  refine hK.out _ _ (HST.out _ K6.out) (fun hHeld => ?_)
  refine wpAnyH_take (i := 38) (v := .bool false) rfl (by kernel_rfl) (by kernel_rfl) (by kernel_rfl) (fun _ _ _ h => h) (Or.inl ⟨by kernel_rfl, fun w _ => by go_simp⟩) hHeld ?_
  refine wpAnyH_take (i := 39) (v := .bool false) rfl (by kernel_rfl) (by kernel_rfl) (by kernel_rfl) (fun _ _ _ h => h) (Or.inl ⟨by kernel_rfl, fun w _ => by go_simp⟩) hHeld ?_
  refine wpAnyH_take (i := 40) (v := .bool false) rfl (by kernel_rfl) (by kernel_rfl) (by kernel_rfl) (fun _ _ _ h => h) (Or.inl ⟨by kernel_rfl, fun w _ => by kernel_rfl⟩) hHeld ?_
  refine wpAnyH_take (i := 41) (v := .pointer (some ⟨qb, 0, none⟩)) rfl (by kernel_rfl) (by kernel_rfl) (by kernel_rfl) (fun _ _ _ h => h) (Or.inl ⟨by kernel_rfl, fun w _ => by kernel_rfl⟩) hHeld ?_
  refine wpAnyH_take (i := 43) (v := .pointer (some ⟨rb, 0, none⟩)) rfl (by kernel_rfl) (by kernel_rfl) (by kernel_rfl) (fun _ _ _ h => h) (Or.inl ⟨by kernel_rfl, fun w _ => by kernel_rfl⟩) hHeld ?_
  refine wpAnyH_take (i := 44) (v := .pointer (some ⟨rb, 0, none⟩)) rfl (by kernel_rfl) (by kernel_rfl) (by kernel_rfl) (fun _ _ _ h => h) (Or.inl ⟨by kernel_rfl, fun w _ => by kernel_rfl⟩) hHeld ?_
  refine wpAnyH_take (i := 45) (v := .pointer (some ⟨rb, 3, none⟩)) rfl (by kernel_rfl) (by kernel_rfl) (by kernel_rfl) (fun _ _ _ h => h) (Or.inl ⟨by kernel_rfl, fun w _ => by kernel_rfl⟩) hHeld ?_
  refine wpAnyH_take (i := 46) (v := .pointer (some ⟨tb, 0, none⟩)) rfl (by kernel_rfl) (by kernel_rfl) (by kernel_rfl) (fun _ _ _ h => h) (Or.inl ⟨by kernel_rfl, by intro w hSw; obtain ⟨s0, s1, s2, s3⟩ := hSw; go_simp⟩) hHeld ?_
  refine wpAnyH_ready (rs := [42]) (by kernel_rfl) (by simp) ?_
  refine AllReadyH.cons rfl (fun K hK => ?_) AllReadyH.nil
  go_simp
  refine (C5.out _ K6.out).mono ?_
  rintro e z7 ⟨xl5, rfl, hX, hk⟩
  have HXl5 := hid hX
  clear hX
  have K7 := hid (K6.out.trans hk)
  clear hk
  go_simp
  refine hK.out _ _ (HST.out _ K7.out) (fun hHeld => ?_)
  refine wpAnyH_ready (rs := [47]) (by kernel_rfl) (by simp) ?_
  refine AllReadyH.cons rfl (fun K hK => ?_) AllReadyH.nil
  go_simp
  refine (C7.out _ K7.out).mono ?_
  rintro e z8 ⟨yl5, rfl, hY, hk⟩
  have HXl5 := hid (HXl5.out.keep hk)
  have HYl5 := hid hY
  clear hY
  have K8 := hid (K7.out.trans hk)
  clear hk
  go_simp
  refine hK.out _ _ (HST.out _ K8.out) (fun hHeld => ?_)
  refine wpAnyH_ready (rs := [48]) (by kernel_rfl) (by simp) ?_
  refine AllReadyH.cons rfl (fun K hK => ?_) AllReadyH.nil
  go_simp
  refine (ints_yes _ _ _ xl5 yl5 l5 HXl5.out HYl5.out hl5).mono ?_
  rintro e z9 ⟨rfl, hk⟩
  have K9 := hid (K8.out.trans hk)
  clear hk
  go_simp
  refine hK.out _ _ (HST.out _ K9.out) (fun hHeld => ?_)
  refine wpAnyH_take (i := 49) (v := .bool false) rfl (by kernel_rfl) (by kernel_rfl) (by kernel_rfl) (fun _ _ _ h => h) (Or.inl ⟨by kernel_rfl, fun w _ => by go_simp⟩) hHeld ?_
  refine wpAnyH_take (i := 50) (v := .bool false) rfl (by kernel_rfl) (by kernel_rfl) (by kernel_rfl) (fun _ _ _ h => h) (Or.inl ⟨by kernel_rfl, fun w _ => by go_simp⟩) hHeld ?_
  refine wpAnyH_done (by kernel_rfl) ?_ _
  refine hKK _ _ ?_
  refine act_eq (a' := ⟨#[.pointer (some ⟨qb, 0, none⟩), .pointer (some ⟨rb, 0, none⟩), .int .i64 leave, undef, undef, .pointer (some ⟨ax, 0, none⟩), .pointer (some ⟨ax + 1, 0, none⟩), .pointer (some ⟨a4, 0, none⟩), undef, undef, undef, undef, undef, undef, undef, undef, undef, .pointer (some ⟨rb, 0, none⟩), .slice ao N cp, .pointer (some ⟨qb, 0, none⟩), .int .i64 N, .slice ao N cp, .int .i64 N, .bool false, .bool false, .pointer (some ⟨qb, 0, none⟩), .int .i64 rr, .pointer (some ⟨rb, 0, none⟩), .pointer (some ⟨rb, 0, none⟩), .pointer (some ⟨rb, 0, none⟩), .int .i64 nn, .slice ao N cp, .int .i64 N, .int .i64 rr, .bool false, .bool false, .bool false, .pointer (some ⟨qb, 0, none⟩), .bool ff, .slice ao N cp, .int .i64 N, .pointer (some ⟨rb, 0, none⟩), .pointer (some ⟨rb, 0, none⟩), .pointer (some ⟨rb, 0, none⟩), .int .i64 nn, .bool ff, .bool false, .bool false, .bool false, .pointer (some ⟨qb, 0, none⟩), xl4, .pointer (some ⟨rb, 0, none⟩), .pointer (some ⟨rb, 0, none⟩), .pointer (some ⟨rb, 2, none⟩), .pointer (some ⟨sb, 0, none⟩), yl4, .bool true, .bool false, .bool false, .bool false, .pointer (some ⟨qb, 0, none⟩), xl5, .pointer (some ⟨rb, 0, none⟩), .pointer (some ⟨rb, 0, none⟩), .pointer (some ⟨rb, 3, none⟩), .pointer (some ⟨tb, 0, none⟩), yl5, .bool true, .bool false, .bool false, undef, undef, undef, undef, undef, undef, undef, undef, undef, undef, undef, undef, undef, undef, undef, undef, undef, undef, undef, undef, undef, undef, undef, undef, undef, undef, undef, undef, undef, undef, undef, undef, undef, undef, undef, undef, undef, undef, undef, undef, undef, undef, undef, undef, undef, undef, undef, undef, undef, undef, undef, undef, undef, undef, undef, undef, undef, undef, undef, undef, undef, undef, undef, undef, undef, undef, undef, undef, undef, undef, undef, undef, undef, undef, undef, undef, undef, undef, undef], []⟩) (by kernel_rfl) ?_
  have BY := hid (BX.out.keep K9.out)
  clear HST C1 C2 C3 C4 C5 C6 C7 hl4 hl5 hrr hwr hff' b1 b2 HXl4 HXl5 HYl4 HYl5 K0 K1 K2 K3 K4 K5 K6 K7 K8 K9 BX
  go_wp2_with fail
  go_loopw [8] (fun v' W => ∃ j : Nat, j ≤ 18 ∧ v' = .int .i64 ((j : Int) - 1) ∧ Hid (Bv w W qb rb ax a4 (R ++ (rb :: sb :: tb :: Bo.toList)) M leave X N ao cp)) (fun v' _ => (17 - intOf v').toNat)
  case atStart => exact ⟨0, by decide, rfl, BY⟩
  case round =>
    obtain ⟨j, hj2, rfl, hB2⟩ := hrel
    clear BY
    by_cases hlt2 : j < 18
    · have hltI : ((j : Int) - 1) ≤ 16 := by omega
      obtain ⟨tv, htv⟩ : ∃ tv, (j : Int) - 1 = tv := ⟨_, rfl⟩
      have C1 := hid (waiting_yes (QC.out wr hB2.out.q.kp).1 tv (by unfold i64; omega))
      have C2 := hid (fun (z : World) (hk : Kp w z []) => (show Calls Try.prog 37 #[.pointer (some ⟨rb, 0, none⟩), .int .i64 tv] z fun e w' => e = .returned (.tuple #[.bool (wSend M tv), .bool (wAny M tv)]) ∧ w' = z from by
        obtain ⟨V, Rl, g, -, hi⟩ := (QC.out z hk).2
        exact rwaiting_any hi tv))
      generalize wSend M tv = A1 at C1 C2
      generalize wAny M tv = A2 at C1 C2
      rw [htv] at hltI ⊢
      have HTV := hid htv
      have e1 := neq_bool A1
      have e2 := neq_bool A2
      have hwr : IntKind.i64.wrap (tv + 1) = tv + 1 := IntWalk.i64_in _ ⟨by omega, by omega⟩
      clear htv
      go_wp2_with fail
      refine C1.out.mono ?_
      rintro e y1 ⟨rfl, hk⟩
      have HB3 := hid (hB2.out.keep hk)
      clear hk hB2
      go_wp2_with fail
      refine (C2.out y1 HB3.out.q.kp).mono ?_
      rintro e y2 ⟨rfl, hy⟩; obtain rfl := hy.symm
      clear C1 C2
      go_wp2
      go_roundw
      case rel => exact ⟨j + 1, by omega, by have := HTV.out; simp; omega, HB3⟩
      case measure => simp [intOf]; have := HTV.out; omega
    · have hj18 : j = 18 := by omega
      subst hj18
      simp only [show (((18 : Nat) : Int) - 1) = 17 from rfl]
      have BX := hB2
      clear hB2
      go_wp2_with fail
      refine (allM_any wr (some ⟨qb, 0, none⟩)).mono ?_
      rintro e y1 ⟨rfl, hy1⟩
      rw [hy1]
      clear hy1
      have hnn := fn_not_nil2
      go_wp2_with fail
      have QVX := hid (show Qv wr (some ⟨qb, 0, none⟩) X from .inl ⟨qb, R, M, rfl, (QC.out wr BX.out.q.kp).1, HX.out⟩)
      obtain ⟨W2, hW2⟩ : ∃ W2, wr = W2 := ⟨_, rfl⟩
      subst hW2
      obtain ⟨ab, hab⟩ : ∃ ab, wr.heap.size = ab := ⟨_, rfl⟩
      have k5 := hid (show Kp wr ((wr.alloc (.cells #[.pointer (some ⟨qb, 0, none⟩)] 23)).alloc (.cells #[.int .i64 0] 3)) [] from (Kp.alloc _ _ _).trans (Kp.alloc _ _ _))
      have it5 := hid ((Itq.new QVX.out).keep (Kp.alloc _ (.cells #[.int .i64 0] 3) []))
      have tu5 := hid (show ((wr.alloc (.cells #[.pointer (some ⟨qb, 0, none⟩)] 23)).alloc (.cells #[.int .i64 0] 3)).heap[wr.heap.size + 1]? = some (.cells #[.int .i64 0] 3 (0, 0)) from by
        have := heap_alloc_new (wr.alloc (.cells #[.pointer (some ⟨qb, 0, none⟩)] 23)) (.cells #[.int .i64 0] 3)
        simpa using this)
      obtain ⟨W5, hW5⟩ : ∃ W5, (wr.alloc (.cells #[.pointer (some ⟨qb, 0, none⟩)] 23)).alloc (.cells #[.int .i64 0] 3) = W5 := ⟨_, rfl⟩
      rw [hW5] at k5 it5 tu5
      rw [hab] at it5 tu5
      simp only [hW5, hab]
      have HAB := hid hab
      have a7b : a4 < ab := by rw [← hab]; exact lt_of_block BX.out.bW
      have a6b : ax + 1 < ab := by rw [← hab]; exact lt_of_block BX.out.q.bR
      clear hW5 hab hnn hlt2 QVX
      refine (wpIn_wide (n := 6)).1 ?_
      refine wpIn_loop (fun a1 W => ∃ (t' tq : Nat) (Ds : List Nat) (x15 x98 x99 x100 x101 x102 x125 x126 x127 x128 x129 x130 x131 x132 x133 x134 x135 x136 x137 x138 x139 x140 x141 x142 x143 x144 x145 x146 x147 x148 : Value), t' ≤ 2 ∧ Ds.length = t' ∧ ab < tq ∧ a1 = { tmps := #[.pointer (some ⟨qb, 0, none⟩), .pointer (some ⟨rb, 0, none⟩), .int .i64 leave, undef, undef, .pointer (some ⟨ax, 0, none⟩), .pointer (some ⟨ax + 1, 0, none⟩), .pointer (some ⟨a4, 0, none⟩), .int .i64 17, u9, u10, u11, u12, itm ab, .pointer (some ⟨tq, 0, none⟩), x15, undef, .pointer (some ⟨rb, 0, none⟩), .slice ao N cp, .pointer (some ⟨qb, 0, none⟩), .int .i64 (N : Nat), .slice ao N cp, .int .i64 (N : Nat), .bool false, .bool false, .pointer (some ⟨qb, 0, none⟩), .int .i64 rr, .pointer (some ⟨rb, 0, none⟩), .pointer (some ⟨rb, 0, none⟩), .pointer (some ⟨rb, 0, none⟩), .int .i64 nn, .slice ao N cp, .int .i64 (N : Nat), .int .i64 rr, .bool false, .bool false, .bool false, .pointer (some ⟨qb, 0, none⟩), .bool ff, .slice ao N cp, .int .i64 (N : Nat), .pointer (some ⟨rb, 0, none⟩), .pointer (some ⟨rb, 0, none⟩), .pointer (some ⟨rb, 0, none⟩), .int .i64 nn, .bool ff, .bool false, .bool false, .bool false, .pointer (some ⟨qb, 0, none⟩), xl4, .pointer (some ⟨rb, 0, none⟩), .pointer (some ⟨rb, 0, none⟩), .pointer (some ⟨rb, 2, none⟩), .pointer (some ⟨sb, 0, none⟩), yl4, .bool true, .bool false, .bool false, .bool false, .pointer (some ⟨qb, 0, none⟩), xl5, .pointer (some ⟨rb, 0, none⟩), .pointer (some ⟨rb, 0, none⟩), .pointer (some ⟨rb, 3, none⟩), .pointer (some ⟨tb, 0, none⟩), yl5, .bool true, .bool false, .bool false, .int .i64 17, .bool false, u72, u73, u74, u75, u76, u77, u78, u79, u80, u81, u82, u83, u84, u85, u86, u87, u88, u89, u90, u91, u92, u93, .pointer (some ⟨qb, 0, none⟩), itm ab, itm ab, .bool false, x98, x99, x100, x101, x102, undef, undef, undef, undef, undef, undef, undef, undef, undef, undef, undef, undef, undef, undef, undef, undef, undef, undef, undef, undef, undef, undef, x125, x126, x127, x128, x129, x130, x131, x132, x133, x134, x135, x136, x137, x138, x139, x140, x141, x142, x143, x144, x145, x146, x147, x148], defers := marks Ds } ∧ Live ab W Ds ∧ Kp wr W [] ∧ Itq W ab X ∧ W.heap[tq]? = some (.cells #[.int .i64 t'] 3 (0, 0)))
        (fun a1 _ => 2 - a1.defers.length) ⟨0, ab + 1, [], _, _, _, _, _, _, _, _, _, _, _, _, _, _, _, _, _, _, _, _, _, _, _, _, _, _, _, _, _, _, by decide, rfl, by omega, rfl, ⟨by simp, by simp, by simp⟩, k5.out, it5.out, tu5.out⟩ ?_
      rintro a1 W ⟨t', tq, Ds, x15, x98, x99, x100, x101, x102, x125, x126, x127, x128, x129, x130, x131, x132, x133, x134, x135, x136, x137, x138, x139, x140, x141, x142, x143, x144, x145, x146, x147, x148, ht, hDs, hbt, rfl, hLive, hKp, hIt, hTu⟩
      have c16 := cell_one hTu
      have f16 := free_one hTu
      have HLV := hid hLive
      have HKP := hid hKp
      have HIT := hid hIt
      have HTU := hid hTu
      have HDS := hid hDs
      have HABW := hid (show ab < W.heap.size from hIt.lt)
      clear hLive hKp hIt hTu hDs
      by_cases ht2 : t' = 2
      · subst ht2
        have BB := BX.out.keep HKP.out
        have c6 := cell_one BB.q.bR
        have f6 := free_one BB.q.bR
        have B6 := hid BB.q.bR
        clear BB
        gi_wp2
        go_wp2
        refine leaves_marks Ds _ (HLV.out.set B6.out (.bool true)) ?_
        have KZ := kp_shutR (rows := [ax + 1]) Ds _ (HLV.out.set B6.out (.bool true)) (w := wr) (by have := HAB.out; omega) (HKP.out.past' (Kp.setCell W ⟨ax + 1, 0, none⟩ (.bool true)))
        have KW : Kp w (shut (W.setCell ⟨ax + 1, 0, none⟩ (.bool true)) Ds) [] := BX.out.q.kp.past KZ (by intro k hk hl; have := HAX.out; simp at hk; omega)
        have hcell := cell_one (shut_cells Ds _ (HLV.out.set B6.out (.bool true)) (set_one (x := .bool true) B6.out))
        exact ⟨.bool true, by simp [results, Try.results12, go_sem, hcell], rfl, KW⟩
      · have ht1 : (t' : Int) < 2 := by omega
        gi_wp2
        obtain ⟨nb, hnb⟩ : ∃ nb, W.heap.size = nb := ⟨_, rfl⟩
        have N1 := hid (heap_alloc_new W (.cells #[.int .i64 0] 3))
        have K1 := hid (HKP.out.trans (Kp.alloc W (.cells #[.int .i64 0] 3) []))
        have I1 := hid (HIT.out.keep (Kp.alloc W (.cells #[.int .i64 0] 3) []))
        have KW1 := hid (Kp.alloc W (.cells #[.int .i64 0] 3) [])
        obtain ⟨W6, hW6⟩ : ∃ W6, W.alloc (.cells #[.int .i64 0] 3) = W6 := ⟨_, rfl⟩
        have hs1 : W6.heap.size = nb + 1 := by rw [← hW6, ← hnb]; simp
        rw [hnb] at N1
        rw [hW6] at N1 K1 I1 KW1
        simp only [hnb, hW6]
        have HNB := hid hnb
        have tnb : tq < nb := by rw [← hnb]; exact lt_of_block HTU.out
        have DL := hid (show ∀ D ∈ Ds, D < nb from fun D hm => by rw [← hnb]; exact lt_of_block (HLV.out.1 D hm))
        have SQ := itM_seqs 5 (by decide) ab X W6 I1.out
        have HS1 := hid hs1
        clear hnb hW6 c16 f16 hs1
        refine range_seqs (K := KcM W6.heap.size) (show 1 ≤ 6 by decide) (gf := 67) (lb := #[.pointer (some ⟨ab, 0, none⟩)]) rfl (enters_of Try.func67 (by kernel_rfl) rfl)
          SQ KcM.trans (kcM_put _) (kcM_alloc _) (Below.refl _ _) (fun _ => rfl)
          (fun pre V => V.heap[nb]? = some (.cells #[.int .i64 (pre.length : Nat)] 3 (0, 0)) ∧ Below W.heap.size W V)
          (fun cc _ V => cc = .exit 4 ∧ t' = 0 ∧ V.heap[nb]? = some (.cells #[.int .i64 leave] 3 (0, 0)) ∧ Below W.heap.size W V)
          (fun s A B row hs hg hr => ⟨cells_kept hs.1 hg hr, (ownFrom_below (β := Unit) (w₀ := W) (Nat.le_refl _) (show W.heap.size ≤ W6.heap.size by have := HNB.out; have := HS1.out; omega)) () A B row hs.2 hg hr⟩)
          (fun cc s A B row hs hg hr => ⟨hs.1, hs.2.1, cells_kept hs.2.2.1 hg hr, (ownFrom_below (β := Unit) (w₀ := W) (Nat.le_refl _) (show W.heap.size ≤ W6.heap.size by have := HNB.out; have := HS1.out; omega)) () A B row hs.2.2.2 hg hr⟩)
          ⟨N1.out, KW1.out.below⟩
          (fun d => .cells #[.int .i64 d.1, .int .i64 d.2] 34)
          (fun d b => { tmps := #[.pointer (some ⟨qb, 0, none⟩), .pointer (some ⟨rb, 0, none⟩), .int .i64 leave, undef, undef, .pointer (some ⟨ax, 0, none⟩), .pointer (some ⟨ax + 1, 0, none⟩), .pointer (some ⟨a4, 0, none⟩), .int .i64 17, u9, u10, u11, u12, itm ab, .pointer (some ⟨tq, 0, none⟩), .pointer (some ⟨nb, 0, none⟩), .pointer (some ⟨b, 0, none⟩), .pointer (some ⟨rb, 0, none⟩), .slice ao N cp, .pointer (some ⟨qb, 0, none⟩), .int .i64 (N : Nat), .slice ao N cp, .int .i64 (N : Nat), .bool false, .bool false, .pointer (some ⟨qb, 0, none⟩), .int .i64 rr, .pointer (some ⟨rb, 0, none⟩), .pointer (some ⟨rb, 0, none⟩), .pointer (some ⟨rb, 0, none⟩), .int .i64 nn, .slice ao N cp, .int .i64 (N : Nat), .int .i64 rr, .bool false, .bool false, .bool false, .pointer (some ⟨qb, 0, none⟩), .bool ff, .slice ao N cp, .int .i64 (N : Nat), .pointer (some ⟨rb, 0, none⟩), .pointer (some ⟨rb, 0, none⟩), .pointer (some ⟨rb, 0, none⟩), .int .i64 nn, .bool ff, .bool false, .bool false, .bool false, .pointer (some ⟨qb, 0, none⟩), xl4, .pointer (some ⟨rb, 0, none⟩), .pointer (some ⟨rb, 0, none⟩), .pointer (some ⟨rb, 2, none⟩), .pointer (some ⟨sb, 0, none⟩), yl4, .bool true, .bool false, .bool false, .bool false, .pointer (some ⟨qb, 0, none⟩), xl5, .pointer (some ⟨rb, 0, none⟩), .pointer (some ⟨rb, 0, none⟩), .pointer (some ⟨rb, 3, none⟩), .pointer (some ⟨tb, 0, none⟩), yl5, .bool true, .bool false, .bool false, .int .i64 17, .bool false, u72, u73, u74, u75, u76, u77, u78, u79, u80, u81, u82, u83, u84, u85, u86, u87, u88, u89, u90, u91, u92, u93, .pointer (some ⟨qb, 0, none⟩), itm ab, itm ab, .bool false, .int .i64 (t' : Nat), .bool true, x100, x101, itm ab, .agg #[.int .i64 d.1, .int .i64 d.2], undef, undef, undef, undef, undef, undef, undef, undef, undef, undef, undef, undef, undef, undef, undef, undef, undef, undef, undef, undef, undef, x125, x126, x127, x128, x129, x130, x131, x132, x133, x134, x135, x136, x137, x138, x139, x140, x141, x142, x143, x144, x145, x146, x147, x148], defers := [] })
          ?assign ?body ?done ?stop
        case assign =>
          intro l d V K _ hK
          have HK := hid hK
          clear hK
          simp only [encV, mv]
          gi_wp2
          exact HK.out
        case body =>
          rintro l pre d b V hpre hbb ⟨hi1, hi2⟩ hob
          have hltX : pre.length < X.length := by
            obtain ⟨r, hr⟩ := hpre
            have := congrArg List.length hr
            simp at this
            omega
          have hdd : X[pre.length]? = some d := by
            obtain ⟨r, hr⟩ := hpre
            rw [← hr]
            simp
          have hltI : ¬ (N : Int) ≤ (pre.length : Int) := by have := HN.out; omega
          have hltJ : (pre.length : Int) < (N : Int) := by have := HN.out; omega
          have hltN : pre.length < N := by have := HN.out; omega
          have hp16 : pre.length ≤ 32 := by have := HN.out; omega
          have kV := HKP.out.trans (Kp.of_below hi2)
          have BB := BX.out.keep kV
          obtain ⟨g, hao, u5, u6⟩ := BB.ps.at hdd
          subst hao
          have u0 := cell_one hi1
          have u1 := cell_one BB.bW
          have u2 := cell_two0 hob
          have u3 := cell_two1 hob
          have HB := hid BB
          have H1 := hid hi1
          have H2 := hid hi2
          have TQV := hid ((hi2.block tq (lt_of_block HTU.out)).trans HTU.out)
          have hnq : ∀ W, (binOp .neq 34 (.agg #[.int .i64 d.1, .int .i64 d.2]) (.agg #[.int .i64 d.1, .int .i64 d.2])).run Try.prog W = .ok (.bool false) W := fun W => by rw [neq34]; simp
          have hgd := fun (w : World) (p q : Operand) (xs ys : Array Value) => run_eqGuard_agg (P := Try.prog) w .neq 34 p q xs ys (by kernel_rfl)
          have hmx : Try.prog.follows .mixedOrders = true := by kernel_rfl
          have D0 := hid (show (fun w2 : World => w2.cell? ⟨nb, 0, none⟩ = some (.int .i64 (pre.length : Nat)) ∧ w2.cell? ⟨a4, 0, none⟩ = some (.slice (some ⟨g, 0, none⟩) N cp) ∧ w2.cell? ⟨b, 0, none⟩ = some (.int .i64 d.1) ∧ w2.cell? ⟨b, 1, none⟩ = some (.int .i64 d.2) ∧ w2.cell? ⟨g, pre.length * 2, none⟩ = some (.int .i64 d.1) ∧ w2.cell? ⟨g, pre.length * 2 + 1, none⟩ = some (.int .i64 d.2)) V.drew from ⟨u0, u1, u2, u3, u5, u6⟩)
          clear hi1 hi2 hpre kV BB hdd hob
          gi_wp2_with fail
          refine Code.wpIn_mono (Q := fun e a' w' => e = .normal ∧ a' = { tmps := #[.pointer (some ⟨qb, 0, none⟩), .pointer (some ⟨rb, 0, none⟩), .int .i64 leave, undef, undef, .pointer (some ⟨ax, 0, none⟩), .pointer (some ⟨ax + 1, 0, none⟩), .pointer (some ⟨a4, 0, none⟩), .int .i64 17, u9, u10, u11, u12, itm ab, .pointer (some ⟨tq, 0, none⟩), .pointer (some ⟨nb, 0, none⟩), .pointer (some ⟨b, 0, none⟩), .pointer (some ⟨rb, 0, none⟩), .slice (some ⟨g, 0, none⟩) N cp, .pointer (some ⟨qb, 0, none⟩), .int .i64 (N : Nat), .slice (some ⟨g, 0, none⟩) N cp, .int .i64 (N : Nat), .bool false, .bool false, .pointer (some ⟨qb, 0, none⟩), .int .i64 rr, .pointer (some ⟨rb, 0, none⟩), .pointer (some ⟨rb, 0, none⟩), .pointer (some ⟨rb, 0, none⟩), .int .i64 nn, .slice (some ⟨g, 0, none⟩) N cp, .int .i64 (N : Nat), .int .i64 rr, .bool false, .bool false, .bool false, .pointer (some ⟨qb, 0, none⟩), .bool ff, .slice (some ⟨g, 0, none⟩) N cp, .int .i64 (N : Nat), .pointer (some ⟨rb, 0, none⟩), .pointer (some ⟨rb, 0, none⟩), .pointer (some ⟨rb, 0, none⟩), .int .i64 nn, .bool ff, .bool false, .bool false, .bool false, .pointer (some ⟨qb, 0, none⟩), xl4, .pointer (some ⟨rb, 0, none⟩), .pointer (some ⟨rb, 0, none⟩), .pointer (some ⟨rb, 2, none⟩), .pointer (some ⟨sb, 0, none⟩), yl4, .bool true, .bool false, .bool false, .bool false, .pointer (some ⟨qb, 0, none⟩), xl5, .pointer (some ⟨rb, 0, none⟩), .pointer (some ⟨rb, 0, none⟩), .pointer (some ⟨rb, 3, none⟩), .pointer (some ⟨tb, 0, none⟩), yl5, .bool true, .bool false, .bool false, .int .i64 17, .bool false, u72, u73, u74, u75, u76, u77, u78, u79, u80, u81, u82, u83, u84, u85, u86, u87, u88, u89, u90, u91, u92, u93, .pointer (some ⟨qb, 0, none⟩), itm ab, itm ab, .bool false, .int .i64 (t' : Nat), .bool true, x100, x101, itm ab, .agg #[.int .i64 d.1, .int .i64 d.2], .int .i64 (pre.length : Nat), .slice (some ⟨g, 0, none⟩) N cp, .int .i64 (N : Nat), .bool false, .bool false, .agg #[.int .i64 d.1, .int .i64 d.2], .slice (some ⟨g, 0, none⟩) N cp, .int .i64 (pre.length : Nat), .pointer (some ⟨g, pre.length * 2, none⟩), .agg #[.int .i64 d.1, .int .i64 d.2], .bool false, .bool false, undef, undef, undef, undef, undef, undef, undef, undef, undef, x125, x126, x127, x128, x129, x130, x131, x132, x133, x134, x135, x136, x137, x138, x139, x140, x141, x142, x143, x144, x145, x146, x147, x148], defers := [] } ∧ w' = V.drew) ?_ ?_
          rotate_left
          · refine region_round (S := (fun w2 : World => w2.cell? ⟨nb, 0, none⟩ = some (.int .i64 (pre.length : Nat)) ∧ w2.cell? ⟨a4, 0, none⟩ = some (.slice (some ⟨g, 0, none⟩) N cp) ∧ w2.cell? ⟨b, 0, none⟩ = some (.int .i64 d.1) ∧ w2.cell? ⟨b, 1, none⟩ = some (.int .i64 d.2) ∧ w2.cell? ⟨g, pre.length * 2, none⟩ = some (.int .i64 d.1) ∧ w2.cell? ⟨g, pre.length * 2 + 1, none⟩ = some (.int .i64 d.2))) l _ hmx (noDefer_spec (by kernel_rfl)) (fun ⟨_, _, h⟩ => by cases h.1) ?_
            have hHeld := D0.out
            refine wpAnyH_take (i := 0) (v := .int .i64 (pre.length : Nat)) rfl (by kernel_rfl) (by kernel_rfl) (by kernel_rfl) (fun _ _ _ h => by cases h.1) (Or.inl ⟨by kernel_rfl, by intro w2 hSw; obtain ⟨s1, s2, s3, s4, s5, s6⟩ := hSw; go_simp⟩) hHeld ?_
            refine wpAnyH_take (i := 1) (v := .slice (some ⟨g, 0, none⟩) N cp) rfl (by kernel_rfl) (by kernel_rfl) (by kernel_rfl) (fun _ _ _ h => by cases h.1) (Or.inl ⟨by kernel_rfl, by intro w2 hSw; obtain ⟨s1, s2, s3, s4, s5, s6⟩ := hSw; go_simp⟩) hHeld ?_
            refine wpAnyH_take (i := 2) (v := .int .i64 (N : Nat)) rfl (by kernel_rfl) (by kernel_rfl) (by kernel_rfl) (fun _ _ _ h => by cases h.1) (Or.inl ⟨by kernel_rfl, by intro w2 hSw; obtain ⟨s1, s2, s3, s4, s5, s6⟩ := hSw; go_simp⟩) hHeld ?_
            refine wpAnyH_take (i := 3) (v := .bool false) rfl (by kernel_rfl) (by kernel_rfl) (by kernel_rfl) (fun _ _ _ h => by cases h.1) (Or.inl ⟨by kernel_rfl, by intro w2 hSw; obtain ⟨s1, s2, s3, s4, s5, s6⟩ := hSw; go_simp⟩) hHeld ?_
            refine wpAnyH_take (i := 4) (v := .bool false) rfl (by kernel_rfl) (by kernel_rfl) (by kernel_rfl) (fun _ _ _ h => by cases h.1) (Or.inl ⟨by kernel_rfl, by intro w2 hSw; obtain ⟨s1, s2, s3, s4, s5, s6⟩ := hSw; go_simp⟩) hHeld ?_
            refine wpAnyH_take (i := 5) (v := .agg #[.int .i64 d.1, .int .i64 d.2]) rfl (by kernel_rfl) (by kernel_rfl) (by kernel_rfl) (fun _ _ _ h => by cases h.1) (Or.inl ⟨by kernel_rfl, by intro w2 hSw; obtain ⟨s1, s2, s3, s4, s5, s6⟩ := hSw; go_simp⟩) hHeld ?_
            refine wpAnyH_take (i := 6) (v := .slice (some ⟨g, 0, none⟩) N cp) rfl (by kernel_rfl) (by kernel_rfl) (by kernel_rfl) (fun _ _ _ h => by cases h.1) (Or.inl ⟨by kernel_rfl, by intro w2 hSw; obtain ⟨s1, s2, s3, s4, s5, s6⟩ := hSw; go_simp⟩) hHeld ?_
            refine wpAnyH_take (i := 7) (v := .int .i64 (pre.length : Nat)) rfl (by kernel_rfl) (by kernel_rfl) (by kernel_rfl) (fun _ _ _ h => by cases h.1) (Or.inl ⟨by kernel_rfl, by intro w2 hSw; obtain ⟨s1, s2, s3, s4, s5, s6⟩ := hSw; go_simp⟩) hHeld ?_
            refine wpAnyH_take (i := 8) (v := .pointer (some ⟨g, pre.length * 2, none⟩)) rfl (by kernel_rfl) (by kernel_rfl) (by kernel_rfl) (fun _ _ _ h => by cases h.1) (Or.inl ⟨by kernel_rfl, by intro w2 hSw; obtain ⟨s1, s2, s3, s4, s5, s6⟩ := hSw; go_simp⟩) hHeld ?_
            refine wpAnyH_take (i := 9) (v := .agg #[.int .i64 d.1, .int .i64 d.2]) rfl (by kernel_rfl) (by kernel_rfl) (by kernel_rfl) (fun _ _ _ h => by cases h.1) (Or.inl ⟨by kernel_rfl, by intro w2 hSw; obtain ⟨s1, s2, s3, s4, s5, s6⟩ := hSw; go_simp⟩) hHeld ?_
            refine wpAnyH_take (i := 10) (v := .bool false) rfl (by kernel_rfl) (by kernel_rfl) (by kernel_rfl) (fun _ _ _ h => by cases h.1) (Or.inl ⟨by kernel_rfl, by intro w2 hSw; obtain ⟨s1, s2, s3, s4, s5, s6⟩ := hSw; go_simp⟩) hHeld ?_
            refine wpAnyH_take (i := 11) (v := .bool false) rfl (by kernel_rfl) (by kernel_rfl) (by kernel_rfl) (fun _ _ _ h => by cases h.1) (Or.inl ⟨by kernel_rfl, by intro w2 hSw; obtain ⟨s1, s2, s3, s4, s5, s6⟩ := hSw; go_simp⟩) hHeld ?_
            refine wpAnyH_done (by kernel_rfl) ?_ _
            exact ⟨rfl, by kernel_rfl, rfl⟩
          rintro e a' V2 ⟨rfl, rfl, rfl⟩
          have k0 := cell_one H1.out
          have f0 := free_one H1.out
          have nu := hid (set_one (w := V) (x := .int .i64 ((pre.length : Int) + 1)) H1.out)
          have k16 := cell_one ((Below.heap_setCell V ⟨nb, 0, none⟩ (.int .i64 ((pre.length : Int) + 1)) tq (by simp; omega)).trans TQV.out)
          have k7 := cell_one ((Below.heap_setCell V ⟨nb, 0, none⟩ (.int .i64 ((pre.length : Int) + 1)) ax (by simp; omega)).trans HB.out.q.bL)
          have k17 := cell_one nu.out
          have KD := hid (show KcM W6.heap.size V (V.setCell ⟨nb, 0, none⟩ (.int .i64 ((pre.length : Int) + 1))).drew from KcM.of_kp ((Kp.setCell V ⟨nb, 0, none⟩ (.int .i64 ((pre.length : Int) + 1))).trans (Kp.drew _ _)) (fun k hk c f => by
            simp at hk
            subst hk
            rw [H1.out]
            simp))
          have KF := hid (show KeepsFrom W6.heap.size V (V.setCell ⟨nb, 0, none⟩ (.int .i64 ((pre.length : Int) + 1))).drew from ⟨by simp, fun k o hk h ho => (Below.heap_setCell V _ _ k (by have := HS1.out; simp; omega)).trans h⟩)
          have BL := hid (show Below W.heap.size W (V.setCell ⟨nb, 0, none⟩ (.int .i64 ((pre.length : Int) + 1))).drew from below_drew (H2.out.setCell (p := ⟨nb, 0, none⟩) (by have := HNB.out; simp; omega) _))
          clear u0 u1 u2 u3 u5 u6 hnq hgd
          by_cases htz : t' = 0
          · have tz : ((t' : Int) == 0) = true := by rw [htz]; rfl
            have HT := hid htz
            clear htz
            by_cases hle' : (pre.length : Int) + 1 = leave
            · have tl : ((pre.length : Int) + 1 == leave) = true := by simp [hle']
              have HLE := hid hle'
              clear hle'
              gi_wp2
              refine ⟨KF.out, rfl, HT.out, ?_, BL.out⟩
              rw [← HLE.out]
              exact nu.out
            · have tl : ((pre.length : Int) + 1 == leave) = false := by simpa using hle'
              gi_wp2
              refine ⟨KF.out, KD.out, ?_, BL.out⟩
              rw [show (((pre ++ [d]).length : Nat) : Int) = (pre.length : Int) + 1 by simp]
              exact nu.out
          · have tz : ((t' : Int) == 0) = false := by simp; omega
            gi_wp2
            refine ⟨KF.out, KD.out, ?_, BL.out⟩
            rw [show (((pre ++ [d]).length : Nat) : Int) = (pre.length : Int) + 1 by simp]
            exact nu.out
        case done =>
          rintro D V hD ⟨hi1, hi2⟩ hK
          rw [HN.out] at hi1
          have kV := HKP.out.trans (Kp.of_below hi2)
          have BB := BX.out.keep kV
          have c14 := cell_one BB.bW
          have c7 := cell_one BB.q.bL
          have c16 := cell_one ((hi2.block tq (lt_of_block HTU.out)).trans HTU.out)
          have c17 := cell_one hi1
          have KV := hid kV
          have IV := hid (HIT.out.keep (Kp.of_below hi2))
          have LV := hid (show Live ab V Ds from ⟨fun E hE => (hi2.block E (lt_of_block (HLV.out.1 E hE))).trans (HLV.out.1 E hE), HLV.out.2⟩)
          have HK := hid hK
          clear kV BB hi1 hi2 hK
          have tn : ((N : Int) != (N : Int)) = false := by simp
          by_cases htz : t' = 0
          · have tz : ((t' : Int) == 0) = true := by rw [htz]; rfl
            have tz1 : ((t' : Int) == 1) = false := by rw [htz]; rfl
            clear htz
            gi_wp2
            refine ⟨⟨t' + 1, V.heap.size, D :: Ds, _, _, _, _, _, _, _, _, _, _, _, _, _, _, _, _, _, _, _, _, _, _, _, _, _, _, _, _, _, _, by omega, by simp [HDS.out], by have := IV.out.lt; omega, rfl, (LV.out.alloc _).more ((Below.heap_alloc _ _ _ (lt_of_block HK.out)).trans HK.out) (fun E hE => by have := DL.out E hE; have := HNB.out; have := HS1.out; omega) (by have := HNB.out; have := HABW.out; have := HS1.out; omega), KV.out.trans (Kp.alloc _ _ _), IV.out.keep (Kp.alloc _ _ _), ?_⟩, by simp [marks, HDS.out]; omega⟩
            simpa using heap_alloc_new V (.cells #[.int .i64 ((t' : Int) + 1)] 3)
          · have tz : ((t' : Int) == 0) = false := by rw [beq_eq_false_iff_ne]; omega
            have tz1 : ((t' : Int) == 1) = true := by rw [beq_iff_eq]; omega
            clear htz
            gi_wp2
            refine ⟨⟨t' + 1, V.heap.size, D :: Ds, _, _, _, _, _, _, _, _, _, _, _, _, _, _, _, _, _, _, _, _, _, _, _, _, _, _, _, _, _, _, by omega, by simp [HDS.out], by have := IV.out.lt; omega, rfl, (LV.out.alloc _).more ((Below.heap_alloc _ _ _ (lt_of_block HK.out)).trans HK.out) (fun E hE => by have := DL.out E hE; have := HNB.out; have := HS1.out; omega) (by have := HNB.out; have := HABW.out; have := HS1.out; omega), KV.out.trans (Kp.alloc _ _ _), IV.out.keep (Kp.alloc _ _ _), ?_⟩, by simp [marks, HDS.out]; omega⟩
            simpa using heap_alloc_new V (.cells #[.int .i64 ((t' : Int) + 1)] 3)
        case stop =>
          rintro D cc pre V hD hpre ⟨rfl, htz, hi1, hi2⟩ hK
          have kV := HKP.out.trans (Kp.of_below hi2)
          have BB := BX.out.keep kV
          have c14 := cell_one BB.bW
          have c7 := cell_one BB.q.bL
          have c16 := cell_one ((hi2.block tq (lt_of_block HTU.out)).trans HTU.out)
          have c17 := cell_one hi1
          have KV := hid kV
          have IV := hid (HIT.out.keep (Kp.of_below hi2))
          have LV := hid (show Live ab V Ds from ⟨fun E hE => (hi2.block E (lt_of_block (HLV.out.1 E hE))).trans (HLV.out.1 E hE), HLV.out.2⟩)
          have HK := hid hK
          clear kV BB hi1 hi2 hK
          have tz : ((t' : Int) == 0) = true := by rw [htz]; rfl
          have tz1 : ((t' : Int) == 1) = false := by rw [htz]; rfl
          have tl : (leave != leave) = false := by simp
          clear htz
          by_cases hll : leave = (N : Int)
          · have tn : (leave != (N : Int)) = false := by simp [hll]
            clear hll
            gi_wp2
            refine ⟨⟨t' + 1, V.heap.size, D :: Ds, _, _, _, _, _, _, _, _, _, _, _, _, _, _, _, _, _, _, _, _, _, _, _, _, _, _, _, _, _, _, by omega, by simp [HDS.out], by have := IV.out.lt; omega, rfl, (LV.out.alloc _).more ((Below.heap_alloc _ _ _ (lt_of_block HK.out)).trans HK.out) (fun E hE => by have := DL.out E hE; have := HNB.out; have := HS1.out; omega) (by have := HNB.out; have := HABW.out; have := HS1.out; omega), KV.out.trans (Kp.alloc _ _ _), IV.out.keep (Kp.alloc _ _ _), ?_⟩, by simp [marks, HDS.out]; omega⟩
            simpa using heap_alloc_new V (.cells #[.int .i64 ((t' : Int) + 1)] 3)
          · have tn : (leave != (N : Int)) = true := by simp [hll]
            clear hll
            gi_wp2
            refine ⟨⟨t' + 1, V.heap.size, D :: Ds, _, _, _, _, _, _, _, _, _, _, _, _, _, _, _, _, _, _, _, _, _, _, _, _, _, _, _, _, _, _, by omega, by simp [HDS.out], by have := IV.out.lt; omega, rfl, (LV.out.alloc _).more ((Below.heap_alloc _ _ _ (lt_of_block HK.out)).trans HK.out) (fun E hE => by have := DL.out E hE; have := HNB.out; have := HS1.out; omega) (by have := HNB.out; have := HABW.out; have := HS1.out; omega), KV.out.trans (Kp.alloc _ _ _), IV.out.keep (Kp.alloc _ _ _), ?_⟩, by simp [marks, HDS.out]; omega⟩
            simpa using heap_alloc_new V (.cells #[.int .i64 ((t' : Int) + 1)] 3)
end Go.Proofs.Ytllkopekfanfaaa
