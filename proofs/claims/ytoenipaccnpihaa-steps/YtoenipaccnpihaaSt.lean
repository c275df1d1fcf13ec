/- stands: do the signals tell what the document's do? -/
import Derived.Deep.RegionHeldLaw
import Derived.Shelf.RegionOpen
import Derived.Test.YtoenipaccnpihaaOs
import Derived.Test.YtoenipaccnpihaaClr
import Derived.Test.YtoenipaccnpihaaMarks
import Derived.Test.YtoenipaccnpihaaRound
namespace Go.Proofs.Ytoenipaccnpihaa
open Go.RowKit Go.Shelf Go.Sort Go.Maps
open Go.Lib hiding intOf
attribute [local go_sem] Oper.semAt_some

/-- The law's boxes (the step, when to leave, the answer), both. -/
structure Bq (w W : World) (sb rb ax : Nat) (R Q : List Nat) (T S : Nat) (M : Nat → Nat) (L : El) (k t n v : Int) (x : Nat) (leave : Int) : Prop where
  bX : W.heap[ax]? = some (.cells #[.int .i64 k, .int .i64 t, .int .i64 n, .int .i64 v, .int .u32 x] 36 (0, 0))
  bL : W.heap[ax + 1]? = some (.cells #[.int .i64 leave] 3 (0, 0))
  bR : W.heap[ax + 1 + 1]? = some (.cells #[.bool false] 4 (0, 0))
  pa : Pa W sb rb R Q T S M L
  kp : Kp w W []
section
variable {w W W' : World} {sb rb ax : Nat} {R Q : List Nat} {T S : Nat} {M : Nat → Nat} {L : El} {k t n v : Int} {x : Nat} {leave : Int}
theorem Bq.keep (h : Bq w W sb rb ax R Q T S M L k t n v x leave) (hk : Kp W W' []) : Bq w W' sb rb ax R Q T S M L k t n v x leave :=
  ⟨(hk.block _ (lt_of_block h.bX) (by simp)).trans h.bX, (hk.block _ (lt_of_block h.bL) (by simp)).trans h.bL, (hk.block _ (lt_of_block h.bR) (by simp)).trans h.bR, h.pa.same hk, h.kp.trans hk⟩
/-- What is wanted beside. -/
structure Bv (w W : World) (sb rb ax a14 : Nat) (R Q : List Nat) (T S : Nat) (M : Nat → Nat) (L : El) (k t n v : Int) (x : Nat) (leave : Int) (X : Gl) (N : Nat) (ao : Option Addr) (cp : Nat) : Prop where
  q : Bq w W sb rb ax R Q T S M L k t n v x leave
  bW : W.heap[a14]? = some (.cells #[.slice ao N cp] 71 (0, 0))
  ps : Gr W w.heap.size (.slice ao N cp) X
theorem Bv.keep {a14 : Nat} {X : Gl} {N : Nat} {ao : Option Addr} {cp : Nat} (h : Bv w W sb rb ax a14 R Q T S M L k t n v x leave X N ao cp) (hk : Kp W W' []) : Bv w W' sb rb ax a14 R Q T S M L k t n v x leave X N ao cp :=
  ⟨h.q.keep hk, (hk.block _ (lt_of_block h.bW) (by simp)).trans h.bW, h.ps.keep hk⟩
end
theorem five0 {w : World} {r : Nat} {a b c d e : Value} {t : TypeId} (h : w.heap[r]? = some (.cells #[a, b, c, d, e] t (0, 0))) : w.cell? ⟨r, 1, none⟩ = some b ∧ w.cell? ⟨r, 4, none⟩ = some e := ⟨by simp [World.cell?, h], by simp [World.cell?, h]⟩
theorem cells_kept {W W' : World} {row : Option Nat} {b B : Nat} {c : Array Value} {t : TypeId} {f : Nat × Nat} (h : W.heap[b]? = some (.cells c t f)) (hg : W.grownBy W' row) (hr : ∀ r, row = some r → B ≤ r ∧ ∃ o : Obj, W.heap[r]? = some o ∧ o.isCells = false) : W'.heap[b]? = some (.cells c t f) := by
  refine (hg.block b (lt_of_block h) ?_).trans h
  intro e
  obtain ⟨-, o, ho, hc⟩ := hr b e.symm
  rw [h] at ho
  cases ho
  simp [Obj.isCells] at hc
theorem neq_bool (B : Bool) (W : World) : (binOp .neq 4 (.bool B) (.bool B)).run Try.prog W = .ok (.bool false) W := by cases B <;> kernel_rfl
theorem below_drew {n : Nat} {A B : World} (h : Below n A B) : Below n A B.drew := ⟨h.os, h.tape, h.output, h.size, h.block⟩
theorem fn_not_nil2 (a b : Nat) (W : World) : (binOp .eql 74 (itv a b) .nilFunc).run Try.prog W = .ok (.bool false) W := by kernel_rfl
set_option maxRecDepth 100000 in
set_option maxHeartbeats 8000000 in
theorem stands_any : StandsOk := by
  intro w sb rb R Q T S M L k t n v x leave hx hl h
  have hb0 : Bq w (((w.alloc (.cells #[.int .i64 k, .int .i64 t, .int .i64 n, .int .i64 v, .int .u32 x] 36)).alloc (.cells #[.int .i64 leave] 3)).alloc (.cells #[.bool false] 4)) sb rb w.heap.size R Q T S M L k t n v x leave := by
    have k1 := Kp.alloc w (.cells #[.int .i64 k, .int .i64 t, .int .i64 n, .int .i64 v, .int .u32 x] 36) []
    have k2 := Kp.alloc (w.alloc (.cells #[.int .i64 k, .int .i64 t, .int .i64 n, .int .i64 v, .int .u32 x] 36)) (.cells #[.int .i64 leave] 3) []
    have k3 := Kp.alloc ((w.alloc (.cells #[.int .i64 k, .int .i64 t, .int .i64 n, .int .i64 v, .int .u32 x] 36)).alloc (.cells #[.int .i64 leave] 3)) (.cells #[.bool false] 4) []
    have e1 := heap_alloc_new w (.cells #[.int .i64 k, .int .i64 t, .int .i64 n, .int .i64 v, .int .u32 x] 36)
    have e2 := alloc_snd w (.cells #[.int .i64 k, .int .i64 t, .int .i64 n, .int .i64 v, .int .u32 x] 36) (.cells #[.int .i64 leave] 3)
    have e3 := alloc_snd (w.alloc (.cells #[.int .i64 k, .int .i64 t, .int .i64 n, .int .i64 v, .int .u32 x] 36)) (.cells #[.int .i64 leave] 3) (.cells #[.bool false] 4)
    refine ⟨((k2.trans k3).block _ (lt_of_block e1) (by simp)).trans e1, (k3.block _ (lt_of_block e2) (by simp)).trans e2, by simpa using e3, h.same (k1.trans (k2.trans k3)), k1.trans (k2.trans k3)⟩
  have hok := h.1.ok
  have hT := h.1.bd.1.2
  have HS := hid (fun W x y (hI : It W x y (some ⟨sb, 0, none⟩) t) (hs : Sg W sb R T S M L) => it_seqs 5 (by decide) x y sb R T S M L t W hI hs)
  have HOK := hid (And.intro hok (And.intro hT hl))
  have hlen : (allV T L t).length ≤ 600 := Nat.le_trans (allV_len T L t) hl
  obtain ⟨X, hX⟩ : ∃ X, allV T L t = X := ⟨_, rfl⟩
  obtain ⟨N, hN⟩ : ∃ N, X.length = N := ⟨_, rfl⟩
  rw [hX] at HS hlen
  rw [hN] at hlen
  have HX := hid hX
  have HN := hid hN
  have HB0 := hid hb0
  clear hX hN hb0 h hok
  have HWS := hid (show ((w.alloc (.cells #[.int .i64 k, .int .i64 t, .int .i64 n, .int .i64 v, .int .u32 x] 36)).alloc (.cells #[.int .i64 leave] 3)).alloc (.cells #[.bool false] 4) = ((w.alloc (.cells #[.int .i64 k, .int .i64 t, .int .i64 n, .int .i64 v, .int .u32 x] 36)).alloc (.cells #[.int .i64 leave] 3)).alloc (.cells #[.bool false] 4) from rfl)
  refine (callsIn_wide (n := 6)).1 ?_
  refine callsIn_of_wp_marks Try.func12 rfl trivial ?_ rfl
  simp only [Try.ntmps12, List.size_toArray, List.length_cons, List.length_nil, Nat.reduceAdd, Nat.reduceSub, Array.replicate_succ, Array.replicate_zero, List.push_toArray, List.append_toArray, List.nil_append, List.cons_append]
  refine wpIn_wide.2 ?_
  go_wp2_with fail
  obtain ⟨W0, hW0⟩ : ∃ W0, ((w.alloc (.cells #[.int .i64 k, .int .i64 t, .int .i64 n, .int .i64 v, .int .u32 x] 36)).alloc (.cells #[.int .i64 leave] 3)).alloc (.cells #[.bool false] 4) = W0 := ⟨_, rfl⟩
  have hb0 := HB0.out
  rw [hW0] at hb0 ⊢
  have hks0 : W0.heap.size = w.heap.size + 3 := by rw [← hW0]; simp
  clear hW0 HB0 HWS
  obtain ⟨ax, hax⟩ : ∃ ax, w.heap.size = ax := ⟨_, rfl⟩
  have HAX := hid hax
  rw [hax] at hb0 hks0 ⊢
  have HB0 := hid hb0
  clear hb0 hks0 hax
  have cp := peek_any W0 sb R T S M L t x hx HB0.out.pa.1
  have HNV := hid (nxV_ex T L t x)
  obtain ⟨qa, qb, hV⟩ := nxV_ex T L t x
  have HP2 := hid (fun (z : World) (hz : Bq w z sb rb ax R Q T S M L k t n v x leave) => rpeek_any z rb Q T S M L t x hz.pa.2.1 HOK.out.1 HOK.out.2.2 hx)
  rw [hV] at cp HP2
  generalize nxB T L t x = qB at cp HP2
  have HC1 := hid cp
  clear cp HNV hV
  refine HC1.out.mono ?_
  rintro e w1 ⟨rfl, hk1⟩
  have k9 := Kp.alloc w1 (.cells #[.int .i64 qa, .int .i64 qb] 47) []
  have hb1 := HB0.out.keep (hk1.trans k9)
  have h9 := heap_alloc_new w1 (.cells #[.int .i64 qa, .int .i64 qb] 47)
  obtain ⟨b9, hb9⟩ : ∃ b9, w1.heap.size = b9 := ⟨_, rfl⟩
  obtain ⟨W9, hW9⟩ : ∃ W9, w1.alloc (.cells #[.int .i64 qa, .int .i64 qb] 47) = W9 := ⟨_, rfl⟩
  rw [hb9, hW9] at h9
  rw [hW9] at hb1
  have H9 := hid h9
  have HB1 := hid hb1
  have fx := five0 hb1.bX
  have fx1 := fx.1
  have fx4 := fx.2
  have HC2 := hid (HP2.out W9 hb1)
  clear hk1 k9 hb1 h9 HC1 HB0 HP2 fx
  go_wp2_with fail
  try simp only [hW9, hb9]
  clear hW9 hb9
  refine HC2.out.mono ?_
  rintro e w2 ⟨rfl, hk2⟩
  have k11 := Kp.alloc w2 (.cells #[.int .i64 qa, .int .i64 qb] 47) []
  have hb2 := HB1.out.keep (hk2.trans k11)
  have h11 := heap_alloc_new w2 (.cells #[.int .i64 qa, .int .i64 qb] 47)
  have h9 := ((hk2.trans k11).block b9 (lt_of_block H9.out) (by simp)).trans H9.out
  obtain ⟨b11, hb11⟩ : ∃ b11, w2.heap.size = b11 := ⟨_, rfl⟩
  obtain ⟨W11, hW11⟩ : ∃ W11, w2.alloc (.cells #[.int .i64 qa, .int .i64 qb] 47) = W11 := ⟨_, rfl⟩
  rw [hb11, hW11] at h11
  rw [hW11] at hb2 h9
  have g0 := cell_two0 h9
  have g1 := cell_two1 h9
  have g2 := cell_two0 h11
  have g3 := cell_two1 h11
  have HB2 := hid hb2
  have hbb := neq_bool qB
  have hnq : ∀ W, (binOp .neq 47 (.agg #[.int .i64 qa, .int .i64 qb]) (.agg #[.int .i64 qa, .int .i64 qb])).run Try.prog W = .ok (.bool false) W := fun W => by rw [neq47]; simp
  have hgd := fun (w : World) (p q : Operand) (xs ys : Array Value) => run_eqGuard_agg (P := Try.prog) w .neq 47 p q xs ys (by kernel_rfl)
  have HU1 := hid (used_any W11 sb R T S M L hb2.pa.1)
  have HU2 := hid (fun (z : World) (hz : Bq w z sb rb ax R Q T S M L k t n v x leave) => rused_any z rb Q T S M L hz.pa.2.1 HOK.out.2.2)
  generalize used L = us at HU1 HU2
  have hus : ((us : Int) != (us : Int)) = false := by simp
  clear hk2 k11 hb2 h11 h9 HC2 HB1 H9 fx1 fx4
  go_wp2_with fail
  try simp only [hW11, hb11]
  clear hW11 hb11
  go_wp2_with fail
  refine HU1.out.mono ?_
  rintro e w3 ⟨rfl, hk3⟩
  have HB3 := hid (HB2.out.keep hk3)
  have HU2 := hid (HU2.out w3 HB3.out)
  clear hk3 HB2 HU1 g0 g1 g2 g3
  go_wp2_with fail
  refine HU2.out.mono ?_
  rintro e w4 ⟨rfl, hw4⟩
  obtain rfl := hw4.symm
  clear HU2
  go_wp2_with fail
  clear hus hnq hgd
  go_loopw [13] (fun v' W => ∃ j : Nat, j ≤ 18 ∧ v' = .int .i64 ((j : Int) - 1) ∧ Hid (Bq w W sb rb ax R Q T S M L k t n v x leave)) (fun v' _ => (17 - intOf v').toNat)
  case atStart => exact ⟨0, by decide, rfl, HB3⟩
  case round =>
    obtain ⟨j, hj2, rfl, hB2⟩ := hrel
    clear HB3 hbb
    by_cases hlt2 : j < 18
    · have hltI : ((j : Int) - 1) ≤ 16 := by omega
      obtain ⟨tv, htv⟩ : ∃ tv, (j : Int) - 1 = tv := ⟨_, rfl⟩
      have C1 := hid (mask_any wr sb R T S M L tv hB2.out.pa.1)
      have C2 := hid (rmask_any wr rb Q T S M L tv hB2.out.pa.2.1 HOK.out.2.1)
      have C3 := hid (pending_any wr sb R T S M L tv hB2.out.pa.1)
      have C4 := hid (rpending_any wr rb Q T S M L tv hB2.out.pa.2.1 HOK.out.1 HOK.out.2.2)
      have C5 := hid (open_any wr sb R T S M L tv hB2.out.pa.1)
      have hp4 : pendingV T L tv < 4294967296 := by
        unfold pendingV
        split
        · exact hB2.out.pa.1.pp _
        · decide
      have hnb := not_bits hp4 (v := maskV T M tv) (by
        unfold maskV
        split
        · exact hB2.out.pa.1.mm _
        · decide)
      generalize noB (pendingV T L tv) (maskV T M tv) = nb at C5 hnb
      generalize maskV T M tv = mv at C1 C2 hnb
      generalize pendingV T L tv = pv at C3 C4 hnb hp4
      rw [htv] at hltI ⊢
      have HTV := hid htv
      have e1 : ((mv : Int) != (mv : Int)) = false := by simp
      have e2 : ((pv : Int) != (pv : Int)) = false := by simp
      have e3 : ((nb : Int) != (nb : Int)) = false := by simp
      have hwr : IntKind.i64.wrap (tv + 1) = tv + 1 := IntWalk.i64_in _ ⟨by omega, by omega⟩
      clear htv hp4
      go_wp2_with fail
      refine C1.out.mono ?_
      rintro e y1 ⟨rfl, hy⟩; obtain rfl := hy.symm
      go_wp2_with fail
      refine C2.out.mono ?_
      rintro e y2 ⟨rfl, hy⟩; obtain rfl := hy.symm
      go_wp2_with fail
      refine C3.out.mono ?_
      rintro e y3 ⟨rfl, hy⟩; obtain rfl := hy.symm
      go_wp2_with fail
      refine C4.out.mono ?_
      rintro e y4 ⟨rfl, hy⟩; obtain rfl := hy.symm
      go_wp2_with fail
      refine C5.out.mono ?_
      rintro e y5 ⟨rfl, hy⟩; obtain rfl := hy.symm
      go_wp2_with fail
      refine C4.out.mono ?_
      rintro e y6 ⟨rfl, hy⟩; obtain rfl := hy.symm
      go_wp2_with fail
      refine C2.out.mono ?_
      rintro e y7 ⟨rfl, hy⟩; obtain rfl := hy.symm
      clear C1 C2 C3 C4 C5
      go_wp2
      go_roundw
      case rel => exact ⟨j + 1, by omega, by have := HTV.out; simp; omega, hB2⟩
      case measure => simp [intOf]; have := HTV.out; omega
    · have hj18 : j = 18 := by omega
      subst hj18
      simp only [show (((18 : Nat) : Int) - 1) = 17 from rfl]
      have fx1 := (five0 hB2.out.bX).1
      have CA := hid (rall_any wr rb Q T S M L t hB2.out.pa.2.1 HOK.out.1 HOK.out.2.2)
      go_wp2_with fail
      refine CA.out.mono ?_
      rintro e W1 ⟨V, rfl, hd, k1⟩
      rw [HX.out] at hd
      obtain ⟨ao, cp, hv⟩ := hd.slice
      rw [HN.out] at hv
      subst hv
      have k2 := Kp.alloc W1 (.cells #[.slice ao N cp] 71) []
      have hs0 := hB2.out.kp.size
      have BX := hid (show Bv w (W1.alloc (.cells #[.slice ao N cp] 71)) sb rb ax W1.heap.size R Q T S M L k t n v x leave X N ao cp from ⟨hB2.out.keep (k1.trans k2), heap_alloc_new W1 _, (hd.keep k2).low hs0⟩)
      obtain ⟨a14, ha14⟩ : ∃ a14, W1.heap.size = a14 := ⟨_, rfl⟩
      obtain ⟨W2, hW2⟩ : ∃ W2, W1.alloc (.cells #[.slice ao N cp] 71) = W2 := ⟨_, rfl⟩
      have HA := hid (show ax + 1 + 1 < W1.heap.size from by have := lt_of_block hB2.out.bR; have := k1.size; omega)
      rw [ha14] at HA
      rw [ha14, hW2] at BX
      have fx1 := (five0 BX.out.q.bX).1
      clear hd k1 k2 hs0 CA hB2
      go_wp2_with fail
      try simp only [hW2, ha14]
      clear hW2 ha14
      refine (all_any W2 _ t).mono ?_
      rintro e y1 ⟨rfl, hy1⟩
      rw [hy1]
      clear hy1
      have hnn := fn_not_nil2
      go_wp2_with fail
      obtain ⟨ab, hab⟩ : ∃ ab, W2.heap.size = ab := ⟨_, rfl⟩
      have k5 := hid (show Kp W2 (((W2.alloc (.cells #[.pointer (some ⟨sb, 0, none⟩)] 24)).alloc (.cells #[.int .i64 t] 3)).alloc (.cells #[.int .i64 0] 3)) [] from ((Kp.alloc _ _ _).trans (Kp.alloc _ _ _)).trans (Kp.alloc _ _ _))
      have it5 := hid ((It.new W2 (some ⟨sb, 0, none⟩) t).keep (Kp.alloc _ (.cells #[.int .i64 0] 3) []))
      have tu5 := hid (show (((W2.alloc (.cells #[.pointer (some ⟨sb, 0, none⟩)] 24)).alloc (.cells #[.int .i64 t] 3)).alloc (.cells #[.int .i64 0] 3)).heap[W2.heap.size + 1 + 1]? = some (.cells #[.int .i64 0] 3 (0, 0)) from by
        have := heap_alloc_new ((W2.alloc (.cells #[.pointer (some ⟨sb, 0, none⟩)] 24)).alloc (.cells #[.int .i64 t] 3)) (.cells #[.int .i64 0] 3)
        simpa using this)
      obtain ⟨W5, hW5⟩ : ∃ W5, ((W2.alloc (.cells #[.pointer (some ⟨sb, 0, none⟩)] 24)).alloc (.cells #[.int .i64 t] 3)).alloc (.cells #[.int .i64 0] 3) = W5 := ⟨_, rfl⟩
      rw [hW5] at k5 it5 tu5
      rw [hab] at it5 tu5
      simp only [hW5, hab]
      have HAB := hid hab
      have a7b : a14 < ab := by rw [← hab]; exact lt_of_block BX.out.bW
      have a6b : ax + 1 + 1 < ab := by rw [← hab]; exact lt_of_block BX.out.q.bR
      clear hW5 hab hnn hlt2 fx1
      refine (wpIn_wide (n := 6)).1 ?_
      refine wpIn_loop (fun a1 W => ∃ (t' tq : Nat) (Ds : List Nat) (x17 x95 x96 x97 x98 x99 x122 x123 x124 x125 x126 x127 x128 x129 x130 x131 x132 x133 x134 x135 x136 x137 x138 x139 x140 x141 x142 x143 x144 x145 : Value), t' ≤ 2 ∧ Ds.length = t' ∧ ab + 1 < tq ∧ a1 = { tmps := #[.pointer (some ⟨sb, 0, none⟩), .pointer (some ⟨rb, 0, none⟩), .agg #[.int .i64 k, .int .i64 t, .int .i64 n, .int .i64 v, .int .u32 (x : Nat)], .int .i64 leave, undef, undef, .pointer (some ⟨ax, 0, none⟩), .pointer (some ⟨ax + 1, 0, none⟩), .pointer (some ⟨ax + 1 + 1, 0, none⟩), .pointer (some ⟨b9, 0, none⟩), .bool qB, .pointer (some ⟨b11, 0, none⟩), .bool qB, .int .i64 17, .pointer (some ⟨a14, 0, none⟩), itv ab (ab + 1), .pointer (some ⟨tq, 0, none⟩), x17, undef, .tuple #[.agg #[.int .i64 qa, .int .i64 qb], .bool qB], .pointer (some ⟨sb, 0, none⟩), .pointer (some ⟨ax, 1, none⟩), .int .i64 t, .pointer (some ⟨ax, 4, none⟩), .int .u32 (x : Nat), .tuple #[.agg #[.int .i64 qa, .int .i64 qb], .bool qB], .agg #[.int .i64 qa, .int .i64 qb], .bool qB, .tuple #[.agg #[.int .i64 qa, .int .i64 qb], .bool qB], .pointer (some ⟨rb, 0, none⟩), .pointer (some ⟨ax, 1, none⟩), .int .i64 t, .pointer (some ⟨ax, 4, none⟩), .int .u32 (x : Nat), .tuple #[.agg #[.int .i64 qa, .int .i64 qb], .bool qB], .agg #[.int .i64 qa, .int .i64 qb], .bool qB, .agg #[.int .i64 qa, .int .i64 qb], .agg #[.int .i64 qa, .int .i64 qb], .bool false, .bool false, .bool qB, .bool qB, .bool false, .bool false, .bool false, .pointer (some ⟨sb, 0, none⟩), .int .i64 (us : Nat), .pointer (some ⟨rb, 0, none⟩), .int .i64 (us : Nat), .bool false, .bool false, .int .i64 17, .bool false, u54, u55, u56, u57, u58, u59, u60, u61, u62, u63, u64, u65, u66, u67, u68, u69, u70, u71, u72, u73, u74, u75, u76, u77, u78, u79, u80, u81, u82, u83, u84, .pointer (some ⟨rb, 0, none⟩), .pointer (some ⟨ax, 1, none⟩), .int .i64 t, .slice ao N cp, .pointer (some ⟨sb, 0, none⟩), .pointer (some ⟨ax, 1, none⟩), .int .i64 t, itv ab (ab + 1), itv ab (ab + 1), .bool false, x95, x96, x97, x98, x99, undef, undef, undef, undef, undef, undef, undef, undef, undef, undef, undef, undef, undef, undef, undef, undef, undef, undef, undef, undef, undef, undef, x122, x123, x124, x125, x126, x127, x128, x129, x130, x131, x132, x133, x134, x135, x136, x137, x138, x139, x140, x141, x142, x143, x144, x145], defers := marks Ds } ∧ Live ab W Ds ∧ Kp W2 W [] ∧ It W ab (ab + 1) (some ⟨sb, 0, none⟩) t ∧ W.heap[tq]? = some (.cells #[.int .i64 t'] 3 (0, 0)))
        (fun a1 _ => 2 - a1.defers.length) ⟨0, ab + 1 + 1, [], _, _, _, _, _, _, _, _, _, _, _, _, _, _, _, _, _, _, _, _, _, _, _, _, _, _, _, _, _, _, by decide, rfl, by omega, rfl, ⟨by simp, by simp, by simp⟩, k5.out, it5.out, tu5.out⟩ ?_
      rintro a1 W ⟨t', tq, Ds, x17, x95, x96, x97, x98, x99, x122, x123, x124, x125, x126, x127, x128, x129, x130, x131, x132, x133, x134, x135, x136, x137, x138, x139, x140, x141, x142, x143, x144, x145, ht, hDs, hbt, rfl, hLive, hKp, hIt, hTu⟩
      have c16 := cell_one hTu
      have f16 := free_one hTu
      have HLV := hid hLive
      have HKP := hid hKp
      have HIT := hid hIt
      have HTU := hid hTu
      have HDS := hid hDs
      have HABW := hid (show ab + 1 < W.heap.size from lt_of_block hIt.ty)
      clear hLive hKp hIt hTu hDs
      by_cases ht2 : t' = 2
      · subst ht2
        have BB := BX.out.keep HKP.out
        have c6 := cell_one BB.q.bR
        have f6 := free_one BB.q.bR
        have B6 := hid BB.q.bR
        clear BB
        gi_wp2
        go_wp2
        refine leaves_marks Ds _ (HLV.out.set B6.out (.bool true)) ?_
        have KZ := kp_shutR (rows := [ax + 1 + 1]) Ds _ (HLV.out.set B6.out (.bool true)) (w := W2) (by have := HAB.out; omega) (HKP.out.past' (Kp.setCell W ⟨ax + 1 + 1, 0, none⟩ (.bool true)))
        have KW : Kp w (shut (W.setCell ⟨ax + 1 + 1, 0, none⟩ (.bool true)) Ds) [] := BX.out.q.kp.past KZ (by intro k hk hl; have := HAX.out; simp at hk; omega)
        have hcell := cell_one (shut_cells Ds _ (HLV.out.set B6.out (.bool true)) (set_one (x := .bool true) B6.out))
        exact ⟨.bool true, by simp [results, Try.results12, go_sem, hcell], rfl, KW⟩
      · have ht1 : (t' : Int) < 2 := by omega
        gi_wp2
        obtain ⟨nb, hnb⟩ : ∃ nb, W.heap.size = nb := ⟨_, rfl⟩
        have N1 := hid (heap_alloc_new W (.cells #[.int .i64 0] 3))
        have K1 := hid (HKP.out.trans (Kp.alloc W (.cells #[.int .i64 0] 3) []))
        have I1 := hid (HIT.out.keep (Kp.alloc W (.cells #[.int .i64 0] 3) []))
        have KW1 := hid (Kp.alloc W (.cells #[.int .i64 0] 3) [])
        obtain ⟨W6, hW6⟩ : ∃ W6, W.alloc (.cells #[.int .i64 0] 3) = W6 := ⟨_, rfl⟩
        have hs1 : W6.heap.size = nb + 1 := by rw [← hW6, ← hnb]; simp
        rw [hnb] at N1
        rw [hW6] at N1 K1 I1 KW1
        simp only [hnb, hW6]
        have HNB := hid hnb
        have tnb : tq < nb := by rw [← hnb]; exact lt_of_block HTU.out
        have DL := hid (show ∀ D ∈ Ds, D < nb from fun D hm => by rw [← hnb]; exact lt_of_block (HLV.out.1 D hm))
        have SQ := HS.out W6 ab (ab + 1) I1.out (BX.out.q.pa.1.same K1.out)
        have HS1 := hid hs1
        clear hnb hW6 c16 f16 hs1
        refine range_seqs (K := Kc W6.heap.size (ab + 1)) (show 1 ≤ 6 by decide) (gf := 51) (lb := #[.pointer (some ⟨ab, 0, none⟩), .pointer (some ⟨ab + 1, 0, none⟩)]) rfl (enters_of Try.func51 (by kernel_rfl) rfl)
          SQ Kc.trans (kc_put _ _) (kc_alloc _ _) (Below.refl _ _) (fun _ => rfl)
          (fun pre V => V.heap[nb]? = some (.cells #[.int .i64 (pre.length : Nat)] 3 (0, 0)) ∧ Below W.heap.size W V)
          (fun cc _ V => cc = .exit 4 ∧ t' = 0 ∧ V.heap[nb]? = some (.cells #[.int .i64 leave] 3 (0, 0)) ∧ Below W.heap.size W V)
          (fun s A C hs hl => ⟨(hl.block nb (lt_of_block hs.1) (by have := HS1.out; omega)).trans hs.1, hl.os.trans hs.2.os, hl.tape.trans hs.2.tape, hl.output.trans hs.2.output, Nat.le_trans hs.2.size hl.size, fun k hk => (hl.block k (by have := hs.2.size; omega) (by have := HS1.out; have := HNB.out; omega)).trans (hs.2.block k hk)⟩)
          (fun cc s A B row hs hg hr => ⟨hs.1, hs.2.1, cells_kept hs.2.2.1 hg hr, (ownFrom_below (β := Unit) (w₀ := W) (Nat.le_refl _) (show W.heap.size ≤ W6.heap.size by have := HNB.out; have := HS1.out; omega)) () A B row hs.2.2.2 hg hr⟩)
          ⟨N1.out, KW1.out.below⟩
          (fun d => .cells #[.int .i64 (d.1 : Nat), .int .i64 d.2] 47)
          (fun d b => { tmps := #[.pointer (some ⟨sb, 0, none⟩), .pointer (some ⟨rb, 0, none⟩), .agg #[.int .i64 k, .int .i64 t, .int .i64 n, .int .i64 v, .int .u32 (x : Nat)], .int .i64 leave, undef, undef, .pointer (some ⟨ax, 0, none⟩), .pointer (some ⟨ax + 1, 0, none⟩), .pointer (some ⟨ax + 1 + 1, 0, none⟩), .pointer (some ⟨b9, 0, none⟩), .bool qB, .pointer (some ⟨b11, 0, none⟩), .bool qB, .int .i64 17, .pointer (some ⟨a14, 0, none⟩), itv ab (ab + 1), .pointer (some ⟨tq, 0, none⟩), .pointer (some ⟨nb, 0, none⟩), .pointer (some ⟨b, 0, none⟩), .tuple #[.agg #[.int .i64 qa, .int .i64 qb], .bool qB], .pointer (some ⟨sb, 0, none⟩), .pointer (some ⟨ax, 1, none⟩), .int .i64 t, .pointer (some ⟨ax, 4, none⟩), .int .u32 (x : Nat), .tuple #[.agg #[.int .i64 qa, .int .i64 qb], .bool qB], .agg #[.int .i64 qa, .int .i64 qb], .bool qB, .tuple #[.agg #[.int .i64 qa, .int .i64 qb], .bool qB], .pointer (some ⟨rb, 0, none⟩), .pointer (some ⟨ax, 1, none⟩), .int .i64 t, .pointer (some ⟨ax, 4, none⟩), .int .u32 (x : Nat), .tuple #[.agg #[.int .i64 qa, .int .i64 qb], .bool qB], .agg #[.int .i64 qa, .int .i64 qb], .bool qB, .agg #[.int .i64 qa, .int .i64 qb], .agg #[.int .i64 qa, .int .i64 qb], .bool false, .bool false, .bool qB, .bool qB, .bool false, .bool false, .bool false, .pointer (some ⟨sb, 0, none⟩), .int .i64 (us : Nat), .pointer (some ⟨rb, 0, none⟩), .int .i64 (us : Nat), .bool false, .bool false, .int .i64 17, .bool false, u54, u55, u56, u57, u58, u59, u60, u61, u62, u63, u64, u65, u66, u67, u68, u69, u70, u71, u72, u73, u74, u75, u76, u77, u78, u79, u80, u81, u82, u83, u84, .pointer (some ⟨rb, 0, none⟩), .pointer (some ⟨ax, 1, none⟩), .int .i64 t, .slice ao N cp, .pointer (some ⟨sb, 0, none⟩), .pointer (some ⟨ax, 1, none⟩), .int .i64 t, itv ab (ab + 1), itv ab (ab + 1), .bool false, .int .i64 (t' : Nat), .bool true, x97, x98, itv ab (ab + 1), Sv (d.1 : Nat) d.2, undef, undef, undef, undef, undef, undef, undef, undef, undef, undef, undef, undef, undef, undef, undef, undef, undef, undef, undef, undef, undef, x122, x123, x124, x125, x126, x127, x128, x129, x130, x131, x132, x133, x134, x135, x136, x137, x138, x139, x140, x141, x142, x143, x144, x145], defers := [] })
          ?assign ?body ?done ?stop
        case assign =>
          intro l d V K _ hK
          have HK := hid hK
          clear hK
          unfold encY Sv
          gi_wp2
          exact HK.out
        case body =>
          rintro l pre d b V hpre hbb ⟨hi1, hi2⟩ hob
          have hltX : pre.length < X.length := by
            obtain ⟨r, hr⟩ := hpre
            have := congrArg List.length hr
            simp at this
            omega
          have hdd : X[pre.length]? = some d := by
            obtain ⟨r, hr⟩ := hpre
            rw [← hr]
            simp
          have hltI : ¬ (N : Int) ≤ (pre.length : Int) := by have := HN.out; omega
          have hltJ : (pre.length : Int) < (N : Int) := by have := HN.out; omega
          have hltN : pre.length < N := by have := HN.out; omega
          have hp16 : pre.length ≤ 600 := by have := HN.out; omega
          have kV := HKP.out.trans (Kp.of_below hi2)
          have BB := BX.out.keep kV
          obtain ⟨g, hao, u5, u6⟩ := BB.ps.at hdd
          subst hao
          have u0 := cell_one hi1
          have u1 := cell_one BB.bW
          have u2 := cell_two0 hob
          have u3 := cell_two1 hob
          have HB := hid BB
          have H1 := hid hi1
          have H2 := hid hi2
          have TQV := hid ((hi2.block tq (lt_of_block HTU.out)).trans HTU.out)
          have hnq : ∀ W, (binOp .neq 47 (.agg #[.int .i64 (d.1 : Nat), .int .i64 d.2]) (.agg #[.int .i64 (d.1 : Nat), .int .i64 d.2])).run Try.prog W = .ok (.bool false) W := fun W => by rw [neq47]; simp
          have hgd := fun (w : World) (p q : Operand) (xs ys : Array Value) => run_eqGuard_agg (P := Try.prog) w .neq 47 p q xs ys (by kernel_rfl)
          have hmx : Try.prog.follows .mixedOrders = true := by kernel_rfl
          have D0 := hid (show (fun w2 : World => w2.cell? ⟨nb, 0, none⟩ = some (.int .i64 (pre.length : Nat)) ∧ w2.cell? ⟨a14, 0, none⟩ = some (.slice (some ⟨g, 0, none⟩) N cp) ∧ w2.cell? ⟨b, 0, none⟩ = some (.int .i64 (d.1 : Nat)) ∧ w2.cell? ⟨b, 1, none⟩ = some (.int .i64 d.2) ∧ w2.cell? ⟨g, pre.length * 2, none⟩ = some (.int .i64 (d.1 : Nat)) ∧ w2.cell? ⟨g, pre.length * 2 + 1, none⟩ = some (.int .i64 d.2)) V.drew from ⟨u0, u1, u2, u3, u5, u6⟩)
          clear hi1 hi2 hpre kV BB hdd hob
          gi_wp2_with fail
          refine Code.wpIn_mono (Q := fun e a' w' => e = .normal ∧ a' = { tmps := #[.pointer (some ⟨sb, 0, none⟩), .pointer (some ⟨rb, 0, none⟩), .agg #[.int .i64 k, .int .i64 t, .int .i64 n, .int .i64 v, .int .u32 (x : Nat)], .int .i64 leave, undef, undef, .pointer (some ⟨ax, 0, none⟩), .pointer (some ⟨ax + 1, 0, none⟩), .pointer (some ⟨ax + 1 + 1, 0, none⟩), .pointer (some ⟨b9, 0, none⟩), .bool qB, .pointer (some ⟨b11, 0, none⟩), .bool qB, .int .i64 17, .pointer (some ⟨a14, 0, none⟩), itv ab (ab + 1), .pointer (some ⟨tq, 0, none⟩), .pointer (some ⟨nb, 0, none⟩), .pointer (some ⟨b, 0, none⟩), .tuple #[.agg #[.int .i64 qa, .int .i64 qb], .bool qB], .pointer (some ⟨sb, 0, none⟩), .pointer (some ⟨ax, 1, none⟩), .int .i64 t, .pointer (some ⟨ax, 4, none⟩), .int .u32 (x : Nat), .tuple #[.agg #[.int .i64 qa, .int .i64 qb], .bool qB], .agg #[.int .i64 qa, .int .i64 qb], .bool qB, .tuple #[.agg #[.int .i64 qa, .int .i64 qb], .bool qB], .pointer (some ⟨rb, 0, none⟩), .pointer (some ⟨ax, 1, none⟩), .int .i64 t, .pointer (some ⟨ax, 4, none⟩), .int .u32 (x : Nat), .tuple #[.agg #[.int .i64 qa, .int .i64 qb], .bool qB], .agg #[.int .i64 qa, .int .i64 qb], .bool qB, .agg #[.int .i64 qa, .int .i64 qb], .agg #[.int .i64 qa, .int .i64 qb], .bool false, .bool false, .bool qB, .bool qB, .bool false, .bool false, .bool false, .pointer (some ⟨sb, 0, none⟩), .int .i64 (us : Nat), .pointer (some ⟨rb, 0, none⟩), .int .i64 (us : Nat), .bool false, .bool false, .int .i64 17, .bool false, u54, u55, u56, u57, u58, u59, u60, u61, u62, u63, u64, u65, u66, u67, u68, u69, u70, u71, u72, u73, u74, u75, u76, u77, u78, u79, u80, u81, u82, u83, u84, .pointer (some ⟨rb, 0, none⟩), .pointer (some ⟨ax, 1, none⟩), .int .i64 t, .slice (some ⟨g, 0, none⟩) N cp, .pointer (some ⟨sb, 0, none⟩), .pointer (some ⟨ax, 1, none⟩), .int .i64 t, itv ab (ab + 1), itv ab (ab + 1), .bool false, .int .i64 (t' : Nat), .bool true, x97, x98, itv ab (ab + 1), Sv (d.1 : Nat) d.2, .int .i64 (pre.length : Nat), .slice (some ⟨g, 0, none⟩) N cp, .int .i64 (N : Nat), .bool false, .bool false, .agg #[.int .i64 (d.1 : Nat), .int .i64 d.2], .slice (some ⟨g, 0, none⟩) N cp, .int .i64 (pre.length : Nat), .pointer (some ⟨g, pre.length * 2, none⟩), .agg #[.int .i64 (d.1 : Nat), .int .i64 d.2], .bool false, .bool false, undef, undef, undef, undef, undef, undef, undef, undef, undef, x122, x123, x124, x125, x126, x127, x128, x129, x130, x131, x132, x133, x134, x135, x136, x137, x138, x139, x140, x141, x142, x143, x144, x145], defers := [] } ∧ w' = V.drew) ?_ ?_
          rotate_left
          · refine region_round (S := (fun w2 : World => w2.cell? ⟨nb, 0, none⟩ = some (.int .i64 (pre.length : Nat)) ∧ w2.cell? ⟨a14, 0, none⟩ = some (.slice (some ⟨g, 0, none⟩) N cp) ∧ w2.cell? ⟨b, 0, none⟩ = some (.int .i64 (d.1 : Nat)) ∧ w2.cell? ⟨b, 1, none⟩ = some (.int .i64 d.2) ∧ w2.cell? ⟨g, pre.length * 2, none⟩ = some (.int .i64 (d.1 : Nat)) ∧ w2.cell? ⟨g, pre.length * 2 + 1, none⟩ = some (.int .i64 d.2))) l _ hmx (noDefer_spec (by kernel_rfl)) (fun ⟨_, _, h⟩ => by cases h.1) ?_
            have hHeld := D0.out
            refine wpAnyH_take (i := 0) (v := .int .i64 (pre.length : Nat)) rfl (by kernel_rfl) (by kernel_rfl) (by kernel_rfl) (fun _ _ _ h => by cases h.1) (Or.inl ⟨by kernel_rfl, by intro w2 hSw; obtain ⟨s1, s2, s3, s4, s5, s6⟩ := hSw; go_simp⟩) hHeld ?_
            refine wpAnyH_take (i := 1) (v := .slice (some ⟨g, 0, none⟩) N cp) rfl (by kernel_rfl) (by kernel_rfl) (by kernel_rfl) (fun _ _ _ h => by cases h.1) (Or.inl ⟨by kernel_rfl, by intro w2 hSw; obtain ⟨s1, s2, s3, s4, s5, s6⟩ := hSw; go_simp⟩) hHeld ?_
            refine wpAnyH_take (i := 2) (v := .int .i64 (N : Nat)) rfl (by kernel_rfl) (by kernel_rfl) (by kernel_rfl) (fun _ _ _ h => by cases h.1) (Or.inl ⟨by kernel_rfl, by intro w2 hSw; obtain ⟨s1, s2, s3, s4, s5, s6⟩ := hSw; go_simp⟩) hHeld ?_
            refine wpAnyH_take (i := 3) (v := .bool false) rfl (by kernel_rfl) (by kernel_rfl) (by kernel_rfl) (fun _ _ _ h => by cases h.1) (Or.inl ⟨by kernel_rfl, by intro w2 hSw; obtain ⟨s1, s2, s3, s4, s5, s6⟩ := hSw; go_simp⟩) hHeld ?_
            refine wpAnyH_take (i := 4) (v := .bool false) rfl (by kernel_rfl) (by kernel_rfl) (by kernel_rfl) (fun _ _ _ h => by cases h.1) (Or.inl ⟨by kernel_rfl, by intro w2 hSw; obtain ⟨s1, s2, s3, s4, s5, s6⟩ := hSw; go_simp⟩) hHeld ?_
            refine wpAnyH_take (i := 5) (v := .agg #[.int .i64 (d.1 : Nat), .int .i64 d.2]) rfl (by kernel_rfl) (by kernel_rfl) (by kernel_rfl) (fun _ _ _ h => by cases h.1) (Or.inl ⟨by kernel_rfl, by intro w2 hSw; obtain ⟨s1, s2, s3, s4, s5, s6⟩ := hSw; go_simp⟩) hHeld ?_
            refine wpAnyH_take (i := 6) (v := .slice (some ⟨g, 0, none⟩) N cp) rfl (by kernel_rfl) (by kernel_rfl) (by kernel_rfl) (fun _ _ _ h => by cases h.1) (Or.inl ⟨by kernel_rfl, by intro w2 hSw; obtain ⟨s1, s2, s3, s4, s5, s6⟩ := hSw; go_simp⟩) hHeld ?_
            refine wpAnyH_take (i := 7) (v := .int .i64 (pre.length : Nat)) rfl (by kernel_rfl) (by kernel_rfl) (by kernel_rfl) (fun _ _ _ h => by cases h.1) (Or.inl ⟨by kernel_rfl, by intro w2 hSw; obtain ⟨s1, s2, s3, s4, s5, s6⟩ := hSw; go_simp⟩) hHeld ?_
            refine wpAnyH_take (i := 8) (v := .pointer (some ⟨g, pre.length * 2, none⟩)) rfl (by kernel_rfl) (by kernel_rfl) (by kernel_rfl) (fun _ _ _ h => by cases h.1) (Or.inl ⟨by kernel_rfl, by intro w2 hSw; obtain ⟨s1, s2, s3, s4, s5, s6⟩ := hSw; go_simp⟩) hHeld ?_
            refine wpAnyH_take (i := 9) (v := .agg #[.int .i64 (d.1 : Nat), .int .i64 d.2]) rfl (by kernel_rfl) (by kernel_rfl) (by kernel_rfl) (fun _ _ _ h => by cases h.1) (Or.inl ⟨by kernel_rfl, by intro w2 hSw; obtain ⟨s1, s2, s3, s4, s5, s6⟩ := hSw; go_simp⟩) hHeld ?_
            refine wpAnyH_take (i := 10) (v := .bool false) rfl (by kernel_rfl) (by kernel_rfl) (by kernel_rfl) (fun _ _ _ h => by cases h.1) (Or.inl ⟨by kernel_rfl, by intro w2 hSw; obtain ⟨s1, s2, s3, s4, s5, s6⟩ := hSw; go_simp⟩) hHeld ?_
            refine wpAnyH_take (i := 11) (v := .bool false) rfl (by kernel_rfl) (by kernel_rfl) (by kernel_rfl) (fun _ _ _ h => by cases h.1) (Or.inl ⟨by kernel_rfl, by intro w2 hSw; obtain ⟨s1, s2, s3, s4, s5, s6⟩ := hSw; go_simp⟩) hHeld ?_
            refine wpAnyH_done (by kernel_rfl) ?_ _
            exact ⟨rfl, by kernel_rfl, rfl⟩
          rintro e a' V2 ⟨rfl, rfl, rfl⟩
          have k0 := cell_one H1.out
          have f0 := free_one H1.out
          have nu := hid (set_one (w := V) (x := .int .i64 ((pre.length : Int) + 1)) H1.out)
          have k16 := cell_one ((Below.heap_setCell V ⟨nb, 0, none⟩ (.int .i64 ((pre.length : Int) + 1)) tq (by simp; omega)).trans TQV.out)
          have k7 := cell_one ((Below.heap_setCell V ⟨nb, 0, none⟩ (.int .i64 ((pre.length : Int) + 1)) (ax + 1) (by simp; omega)).trans HB.out.q.bL)
          have k17 := cell_one nu.out
          have KD := hid (show Kc W6.heap.size (ab + 1) V (V.setCell ⟨nb, 0, none⟩ (.int .i64 ((pre.length : Int) + 1))).drew from Kc.of_kp ((Kp.setCell V ⟨nb, 0, none⟩ (.int .i64 ((pre.length : Int) + 1))).trans (Kp.drew _ _)) (by simp; omega) (fun k hk hD => by
            simp at hk
            have := HS1.out
            omega))
          have KF := hid (show KeepsFrom W6.heap.size V (V.setCell ⟨nb, 0, none⟩ (.int .i64 ((pre.length : Int) + 1))).drew from ⟨by simp, fun k o hk h ho => (Below.heap_setCell V _ _ k (by have := HS1.out; simp; omega)).trans h⟩)
          have BL := hid (show Below W.heap.size W (V.setCell ⟨nb, 0, none⟩ (.int .i64 ((pre.length : Int) + 1))).drew from below_drew (H2.out.setCell (p := ⟨nb, 0, none⟩) (by have := HNB.out; simp; omega) _))
          clear u0 u1 u2 u3 u5 u6 hnq hgd
          by_cases htz : t' = 0
          · have tz : ((t' : Int) == 0) = true := by rw [htz]; rfl
            have HT := hid htz
            clear htz
            by_cases hle' : (pre.length : Int) + 1 = leave
            · have tl : ((pre.length : Int) + 1 == leave) = true := by simp [hle']
              have HLE := hid hle'
              clear hle'
              gi_wp2
              refine ⟨KF.out, rfl, HT.out, ?_, BL.out⟩
              rw [← HLE.out]
              exact nu.out
            · have tl : ((pre.length : Int) + 1 == leave) = false := by simpa using hle'
              gi_wp2
              refine ⟨KF.out, KD.out, ?_, BL.out⟩
              rw [show (((pre ++ [d]).length : Nat) : Int) = (pre.length : Int) + 1 by simp]
              exact nu.out
          · have tz : ((t' : Int) == 0) = false := by simp; omega
            gi_wp2
            refine ⟨KF.out, KD.out, ?_, BL.out⟩
            rw [show (((pre ++ [d]).length : Nat) : Int) = (pre.length : Int) + 1 by simp]
            exact nu.out
        case done =>
          rintro D V hD ⟨hi1, hi2⟩ hK
          rw [HN.out] at hi1
          have kV := HKP.out.trans (Kp.of_below hi2)
          have BB := BX.out.keep kV
          have c14 := cell_one BB.bW
          have c7 := cell_one BB.q.bL
          have c16 := cell_one ((hi2.block tq (lt_of_block HTU.out)).trans HTU.out)
          have c17 := cell_one hi1
          have KV := hid kV
          have IV := hid (HIT.out.keep (Kp.of_below hi2))
          have LV := hid (show Live ab V Ds from ⟨fun E hE => (hi2.block E (lt_of_block (HLV.out.1 E hE))).trans (HLV.out.1 E hE), HLV.out.2⟩)
          have HK := hid hK
          clear kV BB hi1 hi2 hK
          have tn : ((N : Int) != (N : Int)) = false := by simp
          by_cases htz : t' = 0
          · have tz : ((t' : Int) == 0) = true := by rw [htz]; rfl
            have tz1 : ((t' : Int) == 1) = false := by rw [htz]; rfl
            clear htz
            gi_wp2
            refine ⟨⟨t' + 1, V.heap.size, D :: Ds, _, _, _, _, _, _, _, _, _, _, _, _, _, _, _, _, _, _, _, _, _, _, _, _, _, _, _, _, _, _, by omega, by simp [HDS.out], by have := lt_of_block IV.out.ty; omega, rfl, (LV.out.alloc _).more ((Below.heap_alloc _ _ _ (lt_of_block HK.out)).trans HK.out) (fun E hE => by have := DL.out E hE; have := HNB.out; have := HS1.out; omega) (by have := HNB.out; have := HABW.out; have := HS1.out; omega), KV.out.trans (Kp.alloc _ _ _), IV.out.keep (Kp.alloc _ _ _), ?_⟩, by simp [marks, HDS.out]; omega⟩
            simpa using heap_alloc_new V (.cells #[.int .i64 ((t' : Int) + 1)] 3)
          · have tz : ((t' : Int) == 0) = false := by rw [beq_eq_false_iff_ne]; omega
            have tz1 : ((t' : Int) == 1) = true := by rw [beq_iff_eq]; omega
            clear htz
            gi_wp2
            refine ⟨⟨t' + 1, V.heap.size, D :: Ds, _, _, _, _, _, _, _, _, _, _, _, _, _, _, _, _, _, _, _, _, _, _, _, _, _, _, _, _, _, _, by omega, by simp [HDS.out], by have := lt_of_block IV.out.ty; omega, rfl, (LV.out.alloc _).more ((Below.heap_alloc _ _ _ (lt_of_block HK.out)).trans HK.out) (fun E hE => by have := DL.out E hE; have := HNB.out; have := HS1.out; omega) (by have := HNB.out; have := HABW.out; have := HS1.out; omega), KV.out.trans (Kp.alloc _ _ _), IV.out.keep (Kp.alloc _ _ _), ?_⟩, by simp [marks, HDS.out]; omega⟩
            simpa using heap_alloc_new V (.cells #[.int .i64 ((t' : Int) + 1)] 3)
        case stop =>
          rintro D cc pre V hD hpre ⟨rfl, htz, hi1, hi2⟩ hK
          have kV := HKP.out.trans (Kp.of_below hi2)
          have BB := BX.out.keep kV
          have c14 := cell_one BB.bW
          have c7 := cell_one BB.q.bL
          have c16 := cell_one ((hi2.block tq (lt_of_block HTU.out)).trans HTU.out)
          have c17 := cell_one hi1
          have KV := hid kV
          have IV := hid (HIT.out.keep (Kp.of_below hi2))
          have LV := hid (show Live ab V Ds from ⟨fun E hE => (hi2.block E (lt_of_block (HLV.out.1 E hE))).trans (HLV.out.1 E hE), HLV.out.2⟩)
          have HK := hid hK
          clear kV BB hi1 hi2 hK
          have tz : ((t' : Int) == 0) = true := by rw [htz]; rfl
          have tz1 : ((t' : Int) == 1) = false := by rw [htz]; rfl
          have tl : (leave != leave) = false := by simp
          clear htz
          by_cases hll : leave = (N : Int)
          · have tn : (leave != (N : Int)) = false := by simp [hll]
            clear hll
            gi_wp2
            refine ⟨⟨t' + 1, V.heap.size, D :: Ds, _, _, _, _, _, _, _, _, _, _, _, _, _, _, _, _, _, _, _, _, _, _, _, _, _, _, _, _, _, _, by omega, by simp [HDS.out], by have := lt_of_block IV.out.ty; omega, rfl, (LV.out.alloc _).more ((Below.heap_alloc _ _ _ (lt_of_block HK.out)).trans HK.out) (fun E hE => by have := DL.out E hE; have := HNB.out; have := HS1.out; omega) (by have := HNB.out; have := HABW.out; have := HS1.out; omega), KV.out.trans (Kp.alloc _ _ _), IV.out.keep (Kp.alloc _ _ _), ?_⟩, by simp [marks, HDS.out]; omega⟩
            simpa using heap_alloc_new V (.cells #[.int .i64 ((t' : Int) + 1)] 3)
          · have tn : (leave != (N : Int)) = true := by simp [hll]
            clear hll
            gi_wp2
            refine ⟨⟨t' + 1, V.heap.size, D :: Ds, _, _, _, _, _, _, _, _, _, _, _, _, _, _, _, _, _, _, _, _, _, _, _, _, _, _, _, _, _, _, by omega, by simp [HDS.out], by have := lt_of_block IV.out.ty; omega, rfl, (LV.out.alloc _).more ((Below.heap_alloc _ _ _ (lt_of_block HK.out)).trans HK.out) (fun E hE => by have := DL.out E hE; have := HNB.out; have := HS1.out; omega) (by have := HNB.out; have := HABW.out; have := HS1.out; omega), KV.out.trans (Kp.alloc _ _ _), IV.out.keep (Kp.alloc _ _ _), ?_⟩, by simp [marks, HDS.out]; omega⟩
            simpa using heap_alloc_new V (.cells #[.int .i64 ((t' : Int) + 1)] 3)
end Go.Proofs.Ytoenipaccnpihaa
