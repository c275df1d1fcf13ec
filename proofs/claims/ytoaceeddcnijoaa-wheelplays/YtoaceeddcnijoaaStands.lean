/- stands: does all that may be looked at stand so? -/
import Derived.Test.YtoaceeddcnijoaaRound
import Derived.Test.YtoaceeddcnijoaaRdue
import Derived.Deep.RegionHeldLaw
namespace Go.Proofs.Ytoaceeddcnijoaa
open Go.RowKit Go.Shelf Go.Lib Go.Sort
set_option linter.unusedSimpArgs false
attribute [local go_sem] Oper.semAt_some

/-- The law's boxes, the reference's list, the wheel. -/
structure Bx (w W : World) (wb rb a N cp : Nat) (F : Nat → Value) (L : List Dl) (leave : Int) (ao : Option Addr) : Prop where
  b5 : W.heap[a]? = some (.cells #[.pointer (some ⟨rb, 0, none⟩)] 26 (0, 0))
  b6 : W.heap[a + 1]? = some (.cells #[.int .i64 leave] 3 (0, 0))
  b7 : W.heap[a + 1 + 1]? = some (.cells #[.bool false] 4 (0, 0))
  rf : W.heap[rb]? = some (.cells #[.slice ao N cp] 29 (0, 0))
  ro : Or W 0 (.slice ao N cp) L
  wl : Wl W wb F L
  kp : Kp w W []
section
variable {w W W' : World} {wb rb a N cp : Nat} {F : Nat → Value} {L : List Dl} {leave : Int} {ao : Option Addr}
theorem Bx.keep (h : Bx w W wb rb a N cp F L leave ao) (hk : Kp W W' []) : Bx w W' wb rb a N cp F L leave ao :=
  ⟨(hk.block _ (lt_of_block h.b5) (by simp)).trans h.b5, (hk.block _ (lt_of_block h.b6) (by simp)).trans h.b6, (hk.block _ (lt_of_block h.b7) (by simp)).trans h.b7, (hk.block _ (lt_of_block h.rf) (by simp)).trans h.rf, h.ro.keep hk, h.wl.same hk, h.kp.trans hk⟩
theorem Bx.ref (h : Bx w W wb rb a N cp F L leave ao) : Rf W rb L := ⟨_, h.rf, h.ro⟩
end
/-- What a round must keep: the row that is ranged over. -/
def Kd (bs : Nat) (L : List Dl) (A B : World) : Prop := ∀ v, Dr A bs v L → Dr B bs v L
theorem kd_put (bs : Nat) (L : List Dl) (W : World) (l : Nat) (o o' : Obj) (h : W.heap[l]? = some o) (hc : o.isCells = false) : Kd bs L W (W.putObj l o') := fun v hv => by
  have hk : Kp W (W.putObj l o') [l] := ⟨rfl, rfl, rfl, by simp [World.putObj], fun k _ hn => World.putObj_heap_other (by simpa using hn)⟩
  refine hv.kp hk fun g hg => ?_
  obtain ⟨-, cur, hcur⟩ := owns_block hv hg
  simp only [List.mem_singleton]
  rintro rfl
  rw [h] at hcur
  cases hcur
  cases hc
theorem below_drew {n : Nat} {A B : World} (h : Below n A B) : Below n A B.drew := ⟨h.os, h.tape, h.output, h.size, h.block⟩
theorem fn_not_nil (b : Nat) (W : World) : (binOp .eql 58 (itv b) .nilFunc).run Try.prog W = .ok (.bool false) W := by kernel_rfl

set_option maxRecDepth 100000 in
set_option maxHeartbeats 8000000 in
theorem stands_any (w : World) (wb rb : Nat) (F : Nat → Value) (L : List Dl) (id leave : Int) (h : Wl w wb F L) (h' : Rf w rb L) :
    Calls Try.prog 10 #[.pointer (some ⟨wb, 0, none⟩), .pointer (some ⟨rb, 0, none⟩), .int .i64 id, .int .i64 leave] w fun e w' => e = .returned (.bool true) ∧ Kp w w' [] := by
  have H := hid h
  have R := hid h'
  clear h h'
  refine (callsIn_wide (n := 6)).1 ?_
  refine callsIn_of_wp_marks Try.func10 rfl trivial ?_ rfl
  simp only [Try.ntmps10, List.size_toArray, List.length_cons, List.length_nil, Nat.reduceAdd, Nat.reduceSub, Array.replicate_succ, Array.replicate_zero, List.push_toArray, List.append_toArray, List.nil_append, List.cons_append]
  refine wpIn_wide.2 ?_
  have lw := H.out.lw
  have hl64 := lw.len
  obtain ⟨v, hrf, hor⟩ := R.out
  obtain ⟨ao, cp, rfl⟩ := hor.slice
  obtain ⟨N, hN⟩ : ∃ N, L.length = N := ⟨_, rfl⟩
  rw [hN] at hrf hor hl64
  have HN := hid hN
  have hrl := lt_of_block hrf
  have BX := hid (show Bx w (((w.alloc (.cells #[.pointer (some ⟨rb, 0, none⟩)] 26)).alloc (.cells #[.int .i64 leave] 3)).alloc (.cells #[.bool false] 4)) wb rb w.heap.size N cp F L leave ao by
    have kk := ((Kp.alloc w (.cells #[.pointer (some ⟨rb, 0, none⟩)] 26) []).trans (Kp.alloc _ (.cells #[.int .i64 leave] 3) [])).trans (Kp.alloc _ (.cells #[.bool false] 4) [])
    refine ⟨?_, ?_, ?_, (kk.block rb hrl (by simp)).trans hrf, hor.keep kk, H.out.same kk, kk⟩
    · rw [Below.heap_alloc _ _ _ (by simp; omega), Below.heap_alloc _ _ _ (by simp)]; exact heap_alloc_new w _
    · rw [Below.heap_alloc _ _ _ (by simp)]
      have := heap_alloc_new (w.alloc (.cells #[.pointer (some ⟨rb, 0, none⟩)] 26)) (.cells #[.int .i64 leave] 3)
      simpa using this
    · have := heap_alloc_new ((w.alloc (.cells #[.pointer (some ⟨rb, 0, none⟩)] 26)).alloc (.cells #[.int .i64 leave] 3)) (.cells #[.bool false] 4)
      simpa using this)
  clear hrf hor hN lw
  go_wp2_with fail
  obtain ⟨W0, hW0⟩ : ∃ W0, ((w.alloc (.cells #[.pointer (some ⟨rb, 0, none⟩)] 26)).alloc (.cells #[.int .i64 leave] 3)).alloc (.cells #[.bool false] 4) = W0 := ⟨_, rfl⟩
  obtain ⟨av, hav⟩ : ∃ av, atV id L = av := ⟨_, rfl⟩
  obtain ⟨ah, hah⟩ : ∃ ah, hasV id L = ah := ⟨_, rfl⟩
  rw [hW0] at BX ⊢
  have c1 := wat W0 wb F L BX.out.wl id
  rw [hav, hah] at c1
  refine c1.mono ?_
  rintro e W1 ⟨rfl, k1⟩
  have B1 := hid (BX.out.keep k1)
  have c2 := rat_any W1 rb L id B1.out.ref (by have := HN.out; omega)
  rw [hav, hah] at c2
  clear c1 k1 BX hW0 hav hah
  obtain ⟨a, ha⟩ : ∃ a, w.heap.size = a := ⟨_, rfl⟩
  rw [ha] at B1
  simp only [ha]
  have d5 := cell_one B1.out.b5
  go_wp2_with fail
  refine c2.mono ?_
  rintro e W2 ⟨rfl, k2⟩
  have B2 := hid (B1.out.keep k2)
  clear k2 c2 B1 d5
  go_wp2_with fail
  refine (wfirst W2 wb F L B2.out.wl).mono ?_
  rintro e W3 ⟨rfl, k3⟩
  have B3 := hid (B2.out.keep k3)
  obtain ⟨hf, hhf⟩ : ∃ hf, (L.headD (0, 0)).1 = hf := ⟨_, rfl⟩
  obtain ⟨ht, hht⟩ : ∃ ht, (L.headD (0, 0)).2 = ht := ⟨_, rfl⟩
  obtain ⟨hb, hhb⟩ : ∃ hb, (!L.isEmpty) = hb := ⟨_, rfl⟩
  rw [hhf, hht, hhb]
  have HHD := hid (And.intro hhf (And.intro hht hhb))
  clear k3 B2 hhf hht hhb
  have d5 := cell_one B3.out.b5
  have d9 := cell_one B3.out.rf
  have q1 : (av != av) = false := by simp
  have q2 : (ah != ah) = false := by simp
  have q3 : ((N : Int) != N) = false := by simp
  have q4 : (hb != decide ((0 : Int) < (N : Int))) = false := by
    have h1 := HHD.out.2.2
    have h2 := HN.out
    rw [← h1]
    cases L with
    | nil => simp at h2; subst h2; rfl
    | cons x r =>
      simp at h2
      have hNn : 0 < N := by omega
      simp [hNn]
  go_wp2_with fail
  have BD := hid (B3.out.keep (Kp.drew _ []))
  have cl := wlen W3.drew wb F L BD.out.wl
  rw [HN.out] at cl
  have e5 := cell_one BD.out.b5
  have e9 := cell_one BD.out.rf
  have EE := hid (And.intro e5 e9)
  clear e5 e9
  refine wp_only ?_
  go_region_held_law (fun w2 => w2.cell? ⟨a, 0, none⟩ = some (.pointer (some ⟨rb, 0, none⟩)) ∧ w2.cell? ⟨rb, 0, none⟩ = some (.slice ao N cp))
    (first | with_reducible exact EE.out | exact ⟨hy.cell EE.out.1 (by simp), hy.cell EE.out.2 (by simp)⟩)
    (first | (go_at_call 18; refine cl.mono ?_; rintro e y ⟨rfl, hy⟩) | fail)
  have B4 := hid (BD.out.keep hy)
  clear B3 BD cl EE hy d5 d9
  have d5 := cell_one B4.out.b5
  have d9 := cell_one B4.out.rf
  have hnn := fn_not_nil
  clear q1 q2 q3 q4
  rcases (show N = 0 ∨ 0 < N by omega) with hN0 | hN0
  case' inl =>
    have hLn : L = [] := List.length_eq_zero_iff.1 (by rw [HN.out, hN0])
    have e1 : hb = false := by rw [← HHD.out.2.2, hLn]; rfl
    have e2 : hf = 0 := by rw [← HHD.out.1, hLn]; rfl
    have e3 : ht = 0 := by rw [← HHD.out.2.1, hLn]; rfl
    clear hLn
    subst e1 e2 e3
    subst hN0
    go_wp2_with fail
  case' inr =>
    have hil : 0 < L.length := by rw [HN.out]; exact hN0
    obtain ⟨g, hg, g1, g2⟩ := B4.out.ro.at hil
    have hh : L.headD (0, 0) = L[0]! := by
      cases L with
      | nil => simp at hil
      | cons x r => rfl
    have e1 : hb = true := by
      rw [← HHD.out.2.2]
      cases L with
      | nil => simp at hil
      | cons x r => rfl
    have e2 : hf = L[0]!.1 := by rw [← HHD.out.1, hh]
    have e3 : ht = L[0]!.2 := by rw [← HHD.out.2.1, hh]
    rw [← e2] at g1
    rw [← e3] at g2
    simp only [Nat.zero_mul, Nat.zero_add] at g1 g2
    have hNI : (0 : Int) < N := by omega
    have q5 : (hf != hf) = false := by simp
    have q6 : (ht != ht) = false := by simp
    clear hh e2 e3 hil
    subst e1
    subst hg
    go_wp2_with fail
  case inr =>
    refine (wall _ wb F L B4.out.wl _ (Kp.refl _ _)).mono ?_
    rintro e W5 ⟨⟨x, rfl, hI⟩, k5⟩
    have B5 := hid (B4.out.keep k5)
    have I5 := hid hI
    clear hI k5 B4 d5 d9
    go_wp2_with fail
    have k6 := Kp.alloc W5 (.cells #[.int .i64 0] 3) []
    have K6 := hid k6
    have T6 := hid (heap_alloc_new W5 (.cells #[.int .i64 0] 3))
    obtain ⟨W6, hW6⟩ : ∃ W6, W5.alloc (.cells #[.int .i64 0] 3) = W6 := ⟨_, rfl⟩
    obtain ⟨ab, hab⟩ : ∃ ab, W5.heap.size = ab := ⟨_, rfl⟩
    rw [hW6] at K6 T6 ⊢
    rw [hab] at T6 ⊢
    have HAB := hid hab
    obtain ⟨bs, I5⟩ : ∃ bs, Hid (It W5 bs x L) := ⟨_, I5⟩
    clear k6 hW6 hab hnn
    refine (wpIn_wide (n := 6)).1 ?_
    refine wpIn_loop (fun a1 W => ∃ (t tq : Nat) (Ds : List Nat) (x18 x106 x107 x108 x109 x110 x153 x154 x155 x156 x157 x158 x159 x160 x161 x162 x163 x164 x165 x166 x167 x168 x169 : Value), t ≤ 2 ∧ Ds.length = t ∧ ab ≤ tq ∧ a1 = { tmps := #[Value.pointer (some { block := wb, off := 0 }), Value.pointer (some { block := rb, off := 0 }), Value.int IntKind.i64 id, Value.int IntKind.i64 leave, undef, Value.pointer (some { block := a, off := 0 }), undef, Value.pointer (some { block := a + 1, off := 0 }), Value.pointer (some { block := a + 1 + 1, off := 0 }), Value.int IntKind.i64 av, Value.bool ah, Value.int IntKind.i64 av, Value.bool ah, Value.int IntKind.i64 hf, Value.int IntKind.i64 ht, Value.bool true, itv x, .pointer (some ⟨tq, 0, none⟩), x18, undef, undef, Value.tuple #[Value.int IntKind.i64 av, Value.bool ah], Value.pointer (some { block := wb, off := 0 }), Value.int IntKind.i64 id, Value.tuple #[Value.int IntKind.i64 av, Value.bool ah], Value.int IntKind.i64 av, Value.bool ah, Value.tuple #[Value.int IntKind.i64 av, Value.bool ah], Value.pointer (some { block := rb, off := 0 }), Value.int IntKind.i64 id, Value.tuple #[Value.int IntKind.i64 av, Value.bool ah], Value.int IntKind.i64 av, Value.bool ah, Value.tuple #[Value.int IntKind.i64 hf, Value.int IntKind.i64 ht, Value.bool true], Value.pointer (some { block := wb, off := 0 }), Value.tuple #[Value.int IntKind.i64 hf, Value.int IntKind.i64 ht, Value.bool true], Value.int IntKind.i64 hf, Value.int IntKind.i64 ht, Value.bool true, Value.int IntKind.i64 av, Value.int IntKind.i64 av, Value.bool false, Value.bool false, Value.bool ah, Value.bool ah, Value.bool false, Value.bool false, Value.bool false, Value.pointer (some { block := wb, off := 0 }), Value.int IntKind.i64 ↑N, Value.pointer (some { block := rb, off := 0 }), Value.pointer (some { block := rb, off := 0 }), Value.pointer (some { block := rb, off := 0 }), Value.slice (some { block := g, off := 0 }) N cp, Value.int IntKind.i64 ↑N, Value.bool false, Value.bool false, Value.bool false, Value.bool true, Value.pointer (some { block := rb, off := 0 }), Value.pointer (some { block := rb, off := 0 }), Value.pointer (some { block := rb, off := 0 }), Value.slice (some { block := g, off := 0 }) N cp, Value.int IntKind.i64 ↑N, Value.bool true, Value.bool false, Value.bool false, Value.bool true, Value.bool true, Value.int IntKind.i64 hf, Value.pointer (some { block := rb, off := 0 }), Value.pointer (some { block := rb, off := 0 }), Value.pointer (some { block := rb, off := 0 }), Value.slice (some { block := g, off := 0 }) N cp, Value.pointer (some { block := g, off := 0 }), Value.pointer (some { block := g, off := 0 }), Value.int IntKind.i64 hf, Value.bool false, Value.bool false, Value.int IntKind.i64 ht, Value.pointer (some { block := rb, off := 0 }), Value.pointer (some { block := rb, off := 0 }), Value.pointer (some { block := rb, off := 0 }), Value.slice (some { block := g, off := 0 }) N cp, Value.pointer (some { block := g, off := 0 }), Value.pointer (some { block := g, off := 1 }), Value.int IntKind.i64 ht, Value.bool false, Value.bool false, Value.bool false, Value.bool false, Value.bool true, Value.bool false, Value.bool false, undef, undef, undef, undef, undef, undef, Value.bool false, Value.bool false, Value.pointer (some { block := wb, off := 0 }), itv x, itv x, Value.bool false, x106, x107, x108, x109, x110, undef, undef, undef, undef, undef, undef, undef, undef, undef, undef, undef, undef, undef, undef, undef, undef, undef, undef, undef, undef, undef, undef, undef, undef, undef, undef, undef, undef, undef, undef, undef, undef, undef, undef, undef, undef, undef, undef, undef, undef, undef, undef, x153, x154, x155, x156, x157, x158, x159, x160, x161, x162, x163, x164, x165, x166, x167, x168, x169], defers := marks Ds } ∧ Live ab W Ds ∧ Kp W5 W [] ∧ W.heap[tq]? = some (.cells #[.int .i64 t] 3 (0, 0)))
      (fun a1 _ => 2 - a1.defers.length) ⟨0, ab, [], _, _, _, _, _, _, _, _, _, _, _, _, _, _, _, _, _, _, _, _, _, _, _, by decide, rfl, Nat.le_refl _, rfl, ⟨by simp, by simp, by simp⟩, K6.out, T6.out⟩ ?_
    rintro a1 W ⟨t, tq, Ds, x18, x106, x107, x108, x109, x110, x153, x154, x155, x156, x157, x158, x159, x160, x161, x162, x163, x164, x165, x166, x167, x168, x169, htt, hDs, hbt, rfl, hLive, hKp, hTu⟩
    have c17 := cell_one hTu
    have f17 := free_one hTu
    have HLV := hid hLive
    have HKP := hid hKp
    have HTU := hid hTu
    have HDS := hid hDs
    clear hLive hKp hTu hDs K6 T6
    by_cases ht2 : t = 2
    · subst ht2
      have B := B5.out.keep HKP.out
      have c8 := cell_one B.b7
      have f8 := free_one B.b7
      have B7 := hid B.b7
      clear B
      gi_wp2
      go_wp2
      refine leaves_marks Ds _ (HLV.out.set B7.out (.bool true)) ?_
      have KZ := kp_shutR (rows := [a + 1 + 1]) Ds _ (HLV.out.set B7.out (.bool true)) (w := W5) (by have := HAB.out; omega) (HKP.out.past' (Kp.setCell W ⟨a + 1 + 1, 0, none⟩ (.bool true)))
      have KW := B5.out.kp.past KZ (by intro k hk hl; have := ha; simp at hk; omega)
      have hcell := cell_one (shut_cells Ds _ (HLV.out.set B7.out (.bool true)) (set_one (x := .bool true) B7.out))
      exact ⟨.bool true, by simp [results, Try.results10, go_sem, hcell], rfl, KW⟩
    have ht1 : (t : Int) < 2 := by omega
    refine wpIn_wide.2 ?_
    go_wp2_with fail
    obtain ⟨nb, hnb⟩ : ∃ nb, W.heap.size = nb := ⟨_, rfl⟩
    have N1 := hid (heap_alloc_new W (.cells #[.int .i64 0] 3))
    have KW1 := hid (Kp.alloc W (.cells #[.int .i64 0] 3) [])
    have I1 := hid ((I5.out.keep HKP.out).keep KW1.out)
    obtain ⟨W1, hW1⟩ : ∃ W1, W.alloc (.cells #[.int .i64 0] 3) = W1 := ⟨_, rfl⟩
    have hs1 : W1.heap.size = nb + 1 := by rw [← hW1, ← hnb]; simp
    rw [hnb] at N1
    rw [hW1] at N1 KW1 I1
    simp only [hnb, hW1]
    have HNB := hid hnb
    have HS1 := hid hs1
    have DL := hid (show ∀ D ∈ Ds, D < nb from fun D hm => by rw [← hnb]; exact lt_of_block (HLV.out.1 D hm))
    clear hnb hW1 c17 f17
    refine (wpIn_wide (n := 6)).1 ?_
    refine range_seqs (K := Kd bs L) (show 1 ≤ 6 by decide) (gf := 34) (lb := #[.pointer (some ⟨x, 0, none⟩)]) rfl (enters_of Try.func34 (by kernel_rfl) rfl)
      (it_seqs 5 (by decide) bs x L (by have := HN.out; omega) (Kd bs L) (fun A B v hk hd => hk v hd) W1 I1.out) (fun h1 h2 v hv => h2 v (h1 v hv)) (kd_put bs L) (Below.refl _ _) (fun _ => rfl)
      (fun pre V => V.heap[nb]? = some (.cells #[.int .i64 pre.length] 3 (0, 0)) ∧ Below W.heap.size W V)
      (fun cc _ V => cc = .exit 2 ∧ t = 0 ∧ V.heap[nb]? = some (.cells #[.int .i64 leave] 3 (0, 0)) ∧ Below W.heap.size W V)
      (OwnFrom.and (fun s A B row hs hg hr => cells_kept hs hg hr) (ownFrom_below (Nat.le_refl _) (by have := HNB.out; omega)))
      (fun cc s A B row hs hg hr => ⟨hs.1, hs.2.1, cells_kept hs.2.2.1 hg hr, (ownFrom_below (β := Unit) (w₀ := W) (Nat.le_refl _) (show W.heap.size ≤ W1.heap.size by have := HNB.out; omega)) () A B row hs.2.2.2 hg hr⟩)
      ⟨N1.out, KW1.out.below⟩
      (fun d => { tmps := #[Value.pointer (some { block := wb, off := 0 }), Value.pointer (some { block := rb, off := 0 }), Value.int IntKind.i64 id, Value.int IntKind.i64 leave, undef, Value.pointer (some { block := a, off := 0 }), undef, Value.pointer (some { block := a + 1, off := 0 }), Value.pointer (some { block := a + 1 + 1, off := 0 }), Value.int IntKind.i64 av, Value.bool ah, Value.int IntKind.i64 av, Value.bool ah, Value.int IntKind.i64 hf, Value.int IntKind.i64 ht, Value.bool true, itv x, .pointer (some ⟨tq, 0, none⟩), .pointer (some ⟨nb, 0, none⟩), .int .i64 d.1, .int .i64 d.2, Value.tuple #[Value.int IntKind.i64 av, Value.bool ah], Value.pointer (some { block := wb, off := 0 }), Value.int IntKind.i64 id, Value.tuple #[Value.int IntKind.i64 av, Value.bool ah], Value.int IntKind.i64 av, Value.bool ah, Value.tuple #[Value.int IntKind.i64 av, Value.bool ah], Value.pointer (some { block := rb, off := 0 }), Value.int IntKind.i64 id, Value.tuple #[Value.int IntKind.i64 av, Value.bool ah], Value.int IntKind.i64 av, Value.bool ah, Value.tuple #[Value.int IntKind.i64 hf, Value.int IntKind.i64 ht, Value.bool true], Value.pointer (some { block := wb, off := 0 }), Value.tuple #[Value.int IntKind.i64 hf, Value.int IntKind.i64 ht, Value.bool true], Value.int IntKind.i64 hf, Value.int IntKind.i64 ht, Value.bool true, Value.int IntKind.i64 av, Value.int IntKind.i64 av, Value.bool false, Value.bool false, Value.bool ah, Value.bool ah, Value.bool false, Value.bool false, Value.bool false, Value.pointer (some { block := wb, off := 0 }), Value.int IntKind.i64 ↑N, Value.pointer (some { block := rb, off := 0 }), Value.pointer (some { block := rb, off := 0 }), Value.pointer (some { block := rb, off := 0 }), Value.slice (some { block := g, off := 0 }) N cp, Value.int IntKind.i64 ↑N, Value.bool false, Value.bool false, Value.bool false, Value.bool true, Value.pointer (some { block := rb, off := 0 }), Value.pointer (some { block := rb, off := 0 }), Value.pointer (some { block := rb, off := 0 }), Value.slice (some { block := g, off := 0 }) N cp, Value.int IntKind.i64 ↑N, Value.bool true, Value.bool false, Value.bool false, Value.bool true, Value.bool true, Value.int IntKind.i64 hf, Value.pointer (some { block := rb, off := 0 }), Value.pointer (some { block := rb, off := 0 }), Value.pointer (some { block := rb, off := 0 }), Value.slice (some { block := g, off := 0 }) N cp, Value.pointer (some { block := g, off := 0 }), Value.pointer (some { block := g, off := 0 }), Value.int IntKind.i64 hf, Value.bool false, Value.bool false, Value.int IntKind.i64 ht, Value.pointer (some { block := rb, off := 0 }), Value.pointer (some { block := rb, off := 0 }), Value.pointer (some { block := rb, off := 0 }), Value.slice (some { block := g, off := 0 }) N cp, Value.pointer (some { block := g, off := 0 }), Value.pointer (some { block := g, off := 1 }), Value.int IntKind.i64 ht, Value.bool false, Value.bool false, Value.bool false, Value.bool false, Value.bool true, Value.bool false, Value.bool false, undef, undef, undef, undef, undef, undef, Value.bool false, Value.bool false, Value.pointer (some { block := wb, off := 0 }), itv x, itv x, Value.bool false, .int .i64 t, .bool true, x108, x109, itv x, .int .i64 d.1, .int .i64 d.2, undef, undef, undef, undef, undef, undef, undef, undef, undef, undef, undef, undef, undef, undef, undef, undef, undef, undef, undef, undef, undef, undef, undef, undef, undef, undef, undef, undef, undef, undef, undef, undef, undef, undef, undef, undef, undef, undef, undef, undef, x153, x154, x155, x156, x157, x158, x159, x160, x161, x162, x163, x164, x165, x166, x167, x168, x169], defers := [] })
      ?assign ?body ?done ?stop
    case assign =>
      intro l d V K _ hK
      have HK := hid hK
      clear hK
      gi_wp2
      exact HK.out
    case body =>
      rintro l pre d V hpre ⟨hi1, hi2⟩
      have hltX : pre.length < L.length := by
        have := hpre.length_le
        simp at this
        omega
      have hlN := hltX
      rw [HN.out] at hlN
      have hdd : L[pre.length]! = d := by
        obtain ⟨r, hr⟩ := hpre
        rw [getElem!_pos L pre.length hltX]
        simp [← hr]
      have hltI : ¬ (N : Int) ≤ (pre.length : Int) := by omega
      have hltJ : (pre.length : Int) < (N : Int) := by omega
      have hp64 : pre.length ≤ 64 := by omega
      have kV := HKP.out.trans (Kp.of_below hi2)
      have B := B5.out.keep kV
      obtain ⟨g', hg', u3, u4⟩ := B.ro.at hltX
      obtain rfl : g = g' := by simpa using hg'
      rw [hdd] at u3 u4
      have u0 := cell_one hi1
      have u1 := cell_one B.b5
      have u2 := cell_one B.rf
      have HB := hid B
      have H1 := hid hi1
      have H2 := hid hi2
      have TQV := hid ((hi2.block tq (lt_of_block HTU.out)).trans HTU.out)
      have g0 : (d.1 != d.1) = false := by simp
      have g1 : (d.2 != d.2) = false := by simp
      have hmx : Try.prog.follows .mixedOrders = true := by kernel_rfl
      have D0 := hid (show (fun w2 : World => w2.cell? ⟨nb, 0, none⟩ = some (.int .i64 (pre.length : Nat)) ∧ w2.cell? ⟨a, 0, none⟩ = some (.pointer (some ⟨rb, 0, none⟩)) ∧ w2.cell? ⟨rb, 0, none⟩ = some (.slice (some ⟨g, 0, none⟩) N cp) ∧ w2.cell? ⟨g, pre.length * 2, none⟩ = some (.int .i64 d.1) ∧ w2.cell? ⟨g, pre.length * 2 + 1, none⟩ = some (.int .i64 d.2)) V.drew from ⟨u0, u1, u2, u3, u4⟩)
      clear hi1 hi2 hpre kV B hg' hdd
      gi_wp2_with fail
      refine Code.wpIn_mono (Q := fun e a' w' => e = .normal ∧ a' = { tmps := #[Value.pointer (some { block := wb, off := 0 }), Value.pointer (some { block := rb, off := 0 }), Value.int IntKind.i64 id, Value.int IntKind.i64 leave, undef, Value.pointer (some { block := a, off := 0 }), undef, Value.pointer (some { block := a + 1, off := 0 }), Value.pointer (some { block := a + 1 + 1, off := 0 }), Value.int IntKind.i64 av, Value.bool ah, Value.int IntKind.i64 av, Value.bool ah, Value.int IntKind.i64 hf, Value.int IntKind.i64 ht, Value.bool true, itv x, .pointer (some ⟨tq, 0, none⟩), .pointer (some ⟨nb, 0, none⟩), .int .i64 d.1, .int .i64 d.2, Value.tuple #[Value.int IntKind.i64 av, Value.bool ah], Value.pointer (some { block := wb, off := 0 }), Value.int IntKind.i64 id, Value.tuple #[Value.int IntKind.i64 av, Value.bool ah], Value.int IntKind.i64 av, Value.bool ah, Value.tuple #[Value.int IntKind.i64 av, Value.bool ah], Value.pointer (some { block := rb, off := 0 }), Value.int IntKind.i64 id, Value.tuple #[Value.int IntKind.i64 av, Value.bool ah], Value.int IntKind.i64 av, Value.bool ah, Value.tuple #[Value.int IntKind.i64 hf, Value.int IntKind.i64 ht, Value.bool true], Value.pointer (some { block := wb, off := 0 }), Value.tuple #[Value.int IntKind.i64 hf, Value.int IntKind.i64 ht, Value.bool true], Value.int IntKind.i64 hf, Value.int IntKind.i64 ht, Value.bool true, Value.int IntKind.i64 av, Value.int IntKind.i64 av, Value.bool false, Value.bool false, Value.bool ah, Value.bool ah, Value.bool false, Value.bool false, Value.bool false, Value.pointer (some { block := wb, off := 0 }), Value.int IntKind.i64 ↑N, Value.pointer (some { block := rb, off := 0 }), Value.pointer (some { block := rb, off := 0 }), Value.pointer (some { block := rb, off := 0 }), Value.slice (some { block := g, off := 0 }) N cp, Value.int IntKind.i64 ↑N, Value.bool false, Value.bool false, Value.bool false, Value.bool true, Value.pointer (some { block := rb, off := 0 }), Value.pointer (some { block := rb, off := 0 }), Value.pointer (some { block := rb, off := 0 }), Value.slice (some { block := g, off := 0 }) N cp, Value.int IntKind.i64 ↑N, Value.bool true, Value.bool false, Value.bool false, Value.bool true, Value.bool true, Value.int IntKind.i64 hf, Value.pointer (some { block := rb, off := 0 }), Value.pointer (some { block := rb, off := 0 }), Value.pointer (some { block := rb, off := 0 }), Value.slice (some { block := g, off := 0 }) N cp, Value.pointer (some { block := g, off := 0 }), Value.pointer (some { block := g, off := 0 }), Value.int IntKind.i64 hf, Value.bool false, Value.bool false, Value.int IntKind.i64 ht, Value.pointer (some { block := rb, off := 0 }), Value.pointer (some { block := rb, off := 0 }), Value.pointer (some { block := rb, off := 0 }), Value.slice (some { block := g, off := 0 }) N cp, Value.pointer (some { block := g, off := 0 }), Value.pointer (some { block := g, off := 1 }), Value.int IntKind.i64 ht, Value.bool false, Value.bool false, Value.bool false, Value.bool false, Value.bool true, Value.bool false, Value.bool false, undef, undef, undef, undef, undef, undef, Value.bool false, Value.bool false, Value.pointer (some { block := wb, off := 0 }), itv x, itv x, Value.bool false, .int .i64 t, .bool true, x108, x109, itv x, .int .i64 d.1, .int .i64 d.2, .int .i64 (pre.length : Nat), .pointer (some ⟨rb, 0, none⟩), .pointer (some ⟨rb, 0, none⟩), .pointer (some ⟨rb, 0, none⟩), .slice (some ⟨g, 0, none⟩) N cp, .int .i64 (N : Nat), .bool false, .bool false, .int .i64 d.1, .pointer (some ⟨rb, 0, none⟩), .pointer (some ⟨rb, 0, none⟩), .pointer (some ⟨rb, 0, none⟩), .slice (some ⟨g, 0, none⟩) N cp, .int .i64 (pre.length : Nat), .pointer (some ⟨g, pre.length * 2, none⟩), .pointer (some ⟨g, pre.length * 2, none⟩), .int .i64 d.1, .bool false, .bool false, .bool false, .int .i64 d.2, .pointer (some ⟨rb, 0, none⟩), .pointer (some ⟨rb, 0, none⟩), .pointer (some ⟨rb, 0, none⟩), .slice (some ⟨g, 0, none⟩) N cp, .int .i64 (pre.length : Nat), .pointer (some ⟨g, pre.length * 2, none⟩), .pointer (some ⟨g, pre.length * 2 + 1, none⟩), .int .i64 d.2, .bool false, .bool false, undef, undef, undef, undef, undef, undef, undef, undef, undef, x153, x154, x155, x156, x157, x158, x159, x160, x161, x162, x163, x164, x165, x166, x167, x168, x169], defers := [] } ∧ w' = V.drew) ?_ ?_
      rotate_left
      · refine region_round (S := (fun w2 : World => w2.cell? ⟨nb, 0, none⟩ = some (.int .i64 (pre.length : Nat)) ∧ w2.cell? ⟨a, 0, none⟩ = some (.pointer (some ⟨rb, 0, none⟩)) ∧ w2.cell? ⟨rb, 0, none⟩ = some (.slice (some ⟨g, 0, none⟩) N cp) ∧ w2.cell? ⟨g, pre.length * 2, none⟩ = some (.int .i64 d.1) ∧ w2.cell? ⟨g, pre.length * 2 + 1, none⟩ = some (.int .i64 d.2))) l _ hmx (noDefer_spec (by kernel_rfl)) (fun ⟨_, _, h⟩ => by cases h.1) ?_
        have hHeld := D0.out
        refine wpAnyH_take (i := 0) (v := .int .i64 (pre.length : Nat)) rfl (by kernel_rfl) (by kernel_rfl) (by kernel_rfl) (fun _ _ _ h => by cases h.1) (Or.inl ⟨by kernel_rfl, by intro w2 hSw; go_simp⟩) hHeld ?_
        refine wpAnyH_take (i := 1) (v := .pointer (some ⟨rb, 0, none⟩)) rfl (by kernel_rfl) (by kernel_rfl) (by kernel_rfl) (fun _ _ _ h => by cases h.1) (Or.inl ⟨by kernel_rfl, by intro w2 hSw; go_simp⟩) hHeld ?_
        refine wpAnyH_take (i := 2) (v := .pointer (some ⟨rb, 0, none⟩)) rfl (by kernel_rfl) (by kernel_rfl) (by kernel_rfl) (fun _ _ _ h => by cases h.1) (Or.inl ⟨by kernel_rfl, fun w2 _ => by kernel_rfl⟩) hHeld ?_
        refine wpAnyH_take (i := 3) (v := .pointer (some ⟨rb, 0, none⟩)) rfl (by kernel_rfl) (by kernel_rfl) (by kernel_rfl) (fun _ _ _ h => by cases h.1) (Or.inl ⟨by kernel_rfl, fun w2 _ => by kernel_rfl⟩) hHeld ?_
        refine wpAnyH_take (i := 4) (v := .slice (some ⟨g, 0, none⟩) N cp) rfl (by kernel_rfl) (by kernel_rfl) (by kernel_rfl) (fun _ _ _ h => by cases h.1) (Or.inl ⟨by kernel_rfl, by intro w2 hSw; go_simp⟩) hHeld ?_
        refine wpAnyH_take (i := 5) (v := .int .i64 (N : Nat)) rfl (by kernel_rfl) (by kernel_rfl) (by kernel_rfl) (fun _ _ _ h => by cases h.1) (Or.inl ⟨by kernel_rfl, fun w2 _ => by kernel_rfl⟩) hHeld ?_
        refine wpAnyH_take (i := 6) (v := .bool false) rfl (by kernel_rfl) (by kernel_rfl) (by kernel_rfl) (fun _ _ _ h => by cases h.1) (Or.inl ⟨by kernel_rfl, by intro w2 hSw; go_simp⟩) hHeld ?_
        refine wpAnyH_take (i := 7) (v := .bool false) rfl (by kernel_rfl) (by kernel_rfl) (by kernel_rfl) (fun _ _ _ h => by cases h.1) (Or.inl ⟨by kernel_rfl, fun w2 _ => by kernel_rfl⟩) hHeld ?_
        refine wpAnyH_take (i := 8) (v := .int .i64 d.1) rfl (by kernel_rfl) (by kernel_rfl) (by kernel_rfl) (fun _ _ _ h => by cases h.1) (Or.inl ⟨by kernel_rfl, fun w2 _ => by kernel_rfl⟩) hHeld ?_
        refine wpAnyH_take (i := 9) (v := .pointer (some ⟨rb, 0, none⟩)) rfl (by kernel_rfl) (by kernel_rfl) (by kernel_rfl) (fun _ _ _ h => by cases h.1) (Or.inl ⟨by kernel_rfl, by intro w2 hSw; go_simp⟩) hHeld ?_
        refine wpAnyH_take (i := 10) (v := .pointer (some ⟨rb, 0, none⟩)) rfl (by kernel_rfl) (by kernel_rfl) (by kernel_rfl) (fun _ _ _ h => by cases h.1) (Or.inl ⟨by kernel_rfl, fun w2 _ => by kernel_rfl⟩) hHeld ?_
        refine wpAnyH_take (i := 11) (v := .pointer (some ⟨rb, 0, none⟩)) rfl (by kernel_rfl) (by kernel_rfl) (by kernel_rfl) (fun _ _ _ h => by cases h.1) (Or.inl ⟨by kernel_rfl, fun w2 _ => by kernel_rfl⟩) hHeld ?_
        refine wpAnyH_take (i := 12) (v := .slice (some ⟨g, 0, none⟩) N cp) rfl (by kernel_rfl) (by kernel_rfl) (by kernel_rfl) (fun _ _ _ h => by cases h.1) (Or.inl ⟨by kernel_rfl, by intro w2 hSw; go_simp⟩) hHeld ?_
        refine wpAnyH_take (i := 13) (v := .int .i64 (pre.length : Nat)) rfl (by kernel_rfl) (by kernel_rfl) (by kernel_rfl) (fun _ _ _ h => by cases h.1) (Or.inl ⟨by kernel_rfl, by intro w2 hSw; go_simp⟩) hHeld ?_
        refine wpAnyH_take (i := 14) (v := .pointer (some ⟨g, pre.length * 2, none⟩)) rfl (by kernel_rfl) (by kernel_rfl) (by kernel_rfl) (fun _ _ _ h => by cases h.1) (Or.inl ⟨by kernel_rfl, by intro w2 hSw; go_simp⟩) hHeld ?_
        refine wpAnyH_take (i := 15) (v := .pointer (some ⟨g, pre.length * 2, none⟩)) rfl (by kernel_rfl) (by kernel_rfl) (by kernel_rfl) (fun _ _ _ h => by cases h.1) (Or.inl ⟨by kernel_rfl, fun w2 _ => by kernel_rfl⟩) hHeld ?_
        refine wpAnyH_take (i := 16) (v := .int .i64 d.1) rfl (by kernel_rfl) (by kernel_rfl) (by kernel_rfl) (fun _ _ _ h => by cases h.1) (Or.inl ⟨by kernel_rfl, by intro w2 hSw; go_simp⟩) hHeld ?_
        refine wpAnyH_take (i := 17) (v := .bool false) rfl (by kernel_rfl) (by kernel_rfl) (by kernel_rfl) (fun _ _ _ h => by cases h.1) (Or.inl ⟨by kernel_rfl, by intro w2 hSw; go_simp⟩) hHeld ?_
        refine wpAnyH_take (i := 18) (v := .bool false) rfl (by kernel_rfl) (by kernel_rfl) (by kernel_rfl) (fun _ _ _ h => by cases h.1) (Or.inl ⟨by kernel_rfl, fun w2 _ => by kernel_rfl⟩) hHeld ?_
        refine wpAnyH_take (i := 19) (v := .bool false) rfl (by kernel_rfl) (by kernel_rfl) (by kernel_rfl) (fun _ _ _ h => by cases h.1) (Or.inl ⟨by kernel_rfl, fun w2 _ => by kernel_rfl⟩) hHeld ?_
        refine wpAnyH_take (i := 20) (v := .int .i64 d.2) rfl (by kernel_rfl) (by kernel_rfl) (by kernel_rfl) (fun _ _ _ h => by cases h.1) (Or.inl ⟨by kernel_rfl, fun w2 _ => by kernel_rfl⟩) hHeld ?_
        refine wpAnyH_take (i := 21) (v := .pointer (some ⟨rb, 0, none⟩)) rfl (by kernel_rfl) (by kernel_rfl) (by kernel_rfl) (fun _ _ _ h => by cases h.1) (Or.inl ⟨by kernel_rfl, by intro w2 hSw; go_simp⟩) hHeld ?_
        refine wpAnyH_take (i := 22) (v := .pointer (some ⟨rb, 0, none⟩)) rfl (by kernel_rfl) (by kernel_rfl) (by kernel_rfl) (fun _ _ _ h => by cases h.1) (Or.inl ⟨by kernel_rfl, fun w2 _ => by kernel_rfl⟩) hHeld ?_
        refine wpAnyH_take (i := 23) (v := .pointer (some ⟨rb, 0, none⟩)) rfl (by kernel_rfl) (by kernel_rfl) (by kernel_rfl) (fun _ _ _ h => by cases h.1) (Or.inl ⟨by kernel_rfl, fun w2 _ => by kernel_rfl⟩) hHeld ?_
        refine wpAnyH_take (i := 24) (v := .slice (some ⟨g, 0, none⟩) N cp) rfl (by kernel_rfl) (by kernel_rfl) (by kernel_rfl) (fun _ _ _ h => by cases h.1) (Or.inl ⟨by kernel_rfl, by intro w2 hSw; go_simp⟩) hHeld ?_
        refine wpAnyH_take (i := 25) (v := .int .i64 (pre.length : Nat)) rfl (by kernel_rfl) (by kernel_rfl) (by kernel_rfl) (fun _ _ _ h => by cases h.1) (Or.inl ⟨by kernel_rfl, by intro w2 hSw; go_simp⟩) hHeld ?_
        refine wpAnyH_take (i := 26) (v := .pointer (some ⟨g, pre.length * 2, none⟩)) rfl (by kernel_rfl) (by kernel_rfl) (by kernel_rfl) (fun _ _ _ h => by cases h.1) (Or.inl ⟨by kernel_rfl, by intro w2 hSw; go_simp⟩) hHeld ?_
        refine wpAnyH_take (i := 27) (v := .pointer (some ⟨g, pre.length * 2 + 1, none⟩)) rfl (by kernel_rfl) (by kernel_rfl) (by kernel_rfl) (fun _ _ _ h => by cases h.1) (Or.inl ⟨by kernel_rfl, fun w2 _ => by kernel_rfl⟩) hHeld ?_
        refine wpAnyH_take (i := 28) (v := .int .i64 d.2) rfl (by kernel_rfl) (by kernel_rfl) (by kernel_rfl) (fun _ _ _ h => by cases h.1) (Or.inl ⟨by kernel_rfl, by intro w2 hSw; go_simp⟩) hHeld ?_
        refine wpAnyH_take (i := 29) (v := .bool false) rfl (by kernel_rfl) (by kernel_rfl) (by kernel_rfl) (fun _ _ _ h => by cases h.1) (Or.inl ⟨by kernel_rfl, by intro w2 hSw; go_simp⟩) hHeld ?_
        refine wpAnyH_take (i := 30) (v := .bool false) rfl (by kernel_rfl) (by kernel_rfl) (by kernel_rfl) (fun _ _ _ h => by cases h.1) (Or.inl ⟨by kernel_rfl, fun w2 _ => by kernel_rfl⟩) hHeld ?_
        refine wpAnyH_done (by kernel_rfl) ?_ _
        exact ⟨rfl, by kernel_rfl, rfl⟩
      rintro e a' V2 ⟨rfl, rfl, rfl⟩
      have k0 := cell_one H1.out
      have f0 := free_one H1.out
      have nu := hid (set_one (w := V) (x := .int .i64 ((pre.length : Int) + 1)) H1.out)
      have tnb : tq ≠ nb := by have := lt_of_block HTU.out; have := HNB.out; omega
      have k17 := cell_one ((Below.heap_setCell V ⟨nb, 0, none⟩ (.int .i64 ((pre.length : Int) + 1)) tq tnb).trans TQV.out)
      have anb : a + 1 ≠ nb := by have := lt_of_block B5.out.b6; have h2 := HKP.out.size; have := HNB.out; omega
      have k7 := cell_one ((Below.heap_setCell V ⟨nb, 0, none⟩ (.int .i64 ((pre.length : Int) + 1)) (a + 1) anb).trans HB.out.b6)
      have k18 := cell_one nu.out
      have KD := hid (show Kd bs L V (V.setCell ⟨nb, 0, none⟩ (.int .i64 ((pre.length : Int) + 1))).drew from fun v hv => (hv.kp (Kp.setCell V ⟨nb, 0, none⟩ _) fun g hg => by
        obtain ⟨-, cur, hc⟩ := owns_block hv hg
        simp only [List.mem_singleton]
        rintro rfl
        exact block_ne H1.out hc (by decide) rfl).keep (Kp.drew _ []))
      have KF := hid (show KeepsFrom W1.heap.size V (V.setCell ⟨nb, 0, none⟩ (.int .i64 ((pre.length : Int) + 1))).drew from ⟨by simp, fun k o hk h ho => (Below.heap_setCell V _ _ k (by have := HS1.out; simp; omega)).trans h⟩)
      have BL := hid (show Below W.heap.size W (V.setCell ⟨nb, 0, none⟩ (.int .i64 ((pre.length : Int) + 1))).drew from below_drew (H2.out.setCell (p := ⟨nb, 0, none⟩) (by have := HNB.out; simp; omega) _))
      clear u0 u1 u2 u3 u4
      by_cases htz : t = 0
      · have tz : ((t : Int) == 0) = true := by rw [htz]; rfl
        have HT := hid htz
        clear htz
        by_cases hle' : (pre.length : Int) + 1 = leave
        · have tl : ((pre.length : Int) + 1 == leave) = true := by simp [hle']
          have HLE := hid hle'
          clear hle'
          gi_wp2
          refine ⟨KF.out, rfl, HT.out, ?_, BL.out⟩
          rw [← HLE.out]
          exact nu.out
        · have tl : ((pre.length : Int) + 1 == leave) = false := by simpa using hle'
          gi_wp2
          refine ⟨KF.out, KD.out, ?_, BL.out⟩
          rw [show (((pre ++ [d]).length : Nat) : Int) = (pre.length : Int) + 1 by simp]
          exact nu.out
      · have tz : ((t : Int) == 0) = false := by simp; omega
        gi_wp2
        refine ⟨KF.out, KD.out, ?_, BL.out⟩
        rw [show (((pre ++ [d]).length : Nat) : Int) = (pre.length : Int) + 1 by simp]
        exact nu.out
    case done =>
      rintro D V hD ⟨hi1, hi2⟩ hK
      rw [HN.out] at hi1
      have kV := HKP.out.trans (Kp.of_below hi2)
      have B := B5.out.keep kV
      have c5 := cell_one B.b5
      have c7 := cell_one B.b6
      have c9 := cell_one B.rf
      have c17 := cell_one ((hi2.block tq (lt_of_block HTU.out)).trans HTU.out)
      have c18 := cell_one hi1
      have KV := hid kV
      have LV := hid (show Live ab V Ds from ⟨fun E hE => (hi2.block E (lt_of_block (HLV.out.1 E hE))).trans (HLV.out.1 E hE), HLV.out.2⟩)
      have HK := hid hK
      have hmx : Try.prog.follows .mixedOrders = true := by kernel_rfl
      clear kV B hi1 hi2 hK
      have tn : (((N : Nat) : Int) != ((N : Nat) : Int)) = false := by simp
      gi_wp2
      go_wp2_with fail
      go_quiet (fail)
      have KQ := hid (Kp.drewN V nq [])
      obtain ⟨V2, hV2⟩ : ∃ V2, V.drewN nq = V2 := ⟨_, rfl⟩
      rw [hV2] at KQ ⊢
      have e17 := KQ.out.cell c17 (by simp)
      have KV2 := hid (KV.out.trans KQ.out)
      have LV2 := hid (show Live ab V2 Ds from ⟨fun E hE => (KQ.out.block E (lt_of_block (LV.out.1 E hE)) (by simp)).trans (LV.out.1 E hE), LV.out.2⟩)
      have HK2 := hid ((KQ.out.block D (lt_of_block HK.out) (by simp)).trans HK.out)
      clear hV2 c5 c7 c9 c17 c18
      go_wp2
      refine ⟨⟨t + 1, V2.heap.size, D :: Ds, _, _, _, _, _, _, _, _, _, _, _, _, _, _, _, _, _, _, _, _, _, _, _, by omega, by simp [HDS.out], by have h1 := KV2.out.size; have := HAB.out; omega, rfl, (LV2.out.alloc _).more ((Below.heap_alloc _ _ _ (lt_of_block HK2.out)).trans HK2.out) (fun E hE => by have := DL.out E hE; have := HNB.out; have := HS1.out; omega) (by have := HNB.out; have := HKP.out.size; have := HAB.out; have := HS1.out; omega), KV2.out.trans (Kp.alloc _ _ _), ?_⟩, by simp [marks, HDS.out]; omega⟩
      simpa using heap_alloc_new V2 (.cells #[.int .i64 ((t : Int) + 1)] 3)
    case stop =>
      rintro D cc pre V hD hpre ⟨rfl, htz, hi1, hi2⟩ hK
      have kV := HKP.out.trans (Kp.of_below hi2)
      have B := B5.out.keep kV
      have c5 := cell_one B.b5
      have c7 := cell_one B.b6
      have c9 := cell_one B.rf
      have c17 := cell_one ((hi2.block tq (lt_of_block HTU.out)).trans HTU.out)
      have c18 := cell_one hi1
      have KV := hid kV
      have LV := hid (show Live ab V Ds from ⟨fun E hE => (hi2.block E (lt_of_block (HLV.out.1 E hE))).trans (HLV.out.1 E hE), HLV.out.2⟩)
      have HK := hid hK
      have hmx : Try.prog.follows .mixedOrders = true := by kernel_rfl
      clear kV B hi1 hi2 hK
      have tz : ((t : Int) == 1) = false := by rw [htz]; rfl
      have tl : (leave != leave) = false := by simp
      clear htz
      by_cases hll : leave = ((N : Nat) : Int)
      · have tn : (leave != ((N : Nat) : Int)) = false := by simp [hll]
        clear hll
        gi_wp2
        go_wp2_with fail
        go_quiet (fail)
        have KQ := hid (Kp.drewN V nq [])
        obtain ⟨V2, hV2⟩ : ∃ V2, V.drewN nq = V2 := ⟨_, rfl⟩
        rw [hV2] at KQ ⊢
        have e17 := KQ.out.cell c17 (by simp)
        have KV2 := hid (KV.out.trans KQ.out)
        have LV2 := hid (show Live ab V2 Ds from ⟨fun E hE => (KQ.out.block E (lt_of_block (LV.out.1 E hE)) (by simp)).trans (LV.out.1 E hE), LV.out.2⟩)
        have HK2 := hid ((KQ.out.block D (lt_of_block HK.out) (by simp)).trans HK.out)
        clear hV2 c5 c7 c9 c17 c18
        go_wp2
        refine ⟨⟨t + 1, V2.heap.size, D :: Ds, _, _, _, _, _, _, _, _, _, _, _, _, _, _, _, _, _, _, _, _, _, _, _, by omega, by simp [HDS.out], by have h1 := KV2.out.size; have := HAB.out; omega, rfl, (LV2.out.alloc _).more ((Below.heap_alloc _ _ _ (lt_of_block HK2.out)).trans HK2.out) (fun E hE => by have := DL.out E hE; have := HNB.out; have := HS1.out; omega) (by have := HNB.out; have := HKP.out.size; have := HAB.out; have := HS1.out; omega), KV2.out.trans (Kp.alloc _ _ _), ?_⟩, by simp [marks, HDS.out]; omega⟩
        simpa using heap_alloc_new V2 (.cells #[.int .i64 ((t : Int) + 1)] 3)
      · have tn : (leave != ((N : Nat) : Int)) = true := by simp [hll]
        clear hll
        gi_wp2
        go_wp2_with fail
        go_quiet (fail)
        have KQ := hid (Kp.drewN V nq [])
        obtain ⟨V2, hV2⟩ : ∃ V2, V.drewN nq = V2 := ⟨_, rfl⟩
        rw [hV2] at KQ ⊢
        have e17 := KQ.out.cell c17 (by simp)
        have KV2 := hid (KV.out.trans KQ.out)
        have LV2 := hid (show Live ab V2 Ds from ⟨fun E hE => (KQ.out.block E (lt_of_block (LV.out.1 E hE)) (by simp)).trans (LV.out.1 E hE), LV.out.2⟩)
        have HK2 := hid ((KQ.out.block D (lt_of_block HK.out) (by simp)).trans HK.out)
        clear hV2 c5 c7 c9 c17 c18
        go_wp2
        refine ⟨⟨t + 1, V2.heap.size, D :: Ds, _, _, _, _, _, _, _, _, _, _, _, _, _, _, _, _, _, _, _, _, _, _, _, by omega, by simp [HDS.out], by have h1 := KV2.out.size; have := HAB.out; omega, rfl, (LV2.out.alloc _).more ((Below.heap_alloc _ _ _ (lt_of_block HK2.out)).trans HK2.out) (fun E hE => by have := DL.out E hE; have := HNB.out; have := HS1.out; omega) (by have := HNB.out; have := HKP.out.size; have := HAB.out; have := HS1.out; omega), KV2.out.trans (Kp.alloc _ _ _), ?_⟩, by simp [marks, HDS.out]; omega⟩
        simpa using heap_alloc_new V2 (.cells #[.int .i64 ((t : Int) + 1)] 3)
  case inl =>
    refine (wall _ wb F L B4.out.wl _ (Kp.refl _ _)).mono ?_
    rintro e W5 ⟨⟨x, rfl, hI⟩, k5⟩
    have B5 := hid (B4.out.keep k5)
    have I5 := hid hI
    clear hI k5 B4 d5 d9
    go_wp2_with fail
    have k6 := Kp.alloc W5 (.cells #[.int .i64 0] 3) []
    have K6 := hid k6
    have T6 := hid (heap_alloc_new W5 (.cells #[.int .i64 0] 3))
    obtain ⟨W6, hW6⟩ : ∃ W6, W5.alloc (.cells #[.int .i64 0] 3) = W6 := ⟨_, rfl⟩
    obtain ⟨ab, hab⟩ : ∃ ab, W5.heap.size = ab := ⟨_, rfl⟩
    rw [hW6] at K6 T6 ⊢
    rw [hab] at T6 ⊢
    have HAB := hid hab
    obtain ⟨bs, I5⟩ : ∃ bs, Hid (It W5 bs x L) := ⟨_, I5⟩
    clear k6 hW6 hab hnn
    refine (wpIn_wide (n := 6)).1 ?_
    refine wpIn_loop (fun a1 W => ∃ (t tq : Nat) (Ds : List Nat) (x18 x106 x107 x108 x109 x110 x153 x154 x155 x156 x157 x158 x159 x160 x161 x162 x163 x164 x165 x166 x167 x168 x169 : Value), t ≤ 2 ∧ Ds.length = t ∧ ab ≤ tq ∧ a1 = { tmps := #[Value.pointer (some { block := wb, off := 0 }), Value.pointer (some { block := rb, off := 0 }), Value.int IntKind.i64 id, Value.int IntKind.i64 leave, undef, Value.pointer (some { block := a, off := 0 }), undef, Value.pointer (some { block := a + 1, off := 0 }), Value.pointer (some { block := a + 1 + 1, off := 0 }), Value.int IntKind.i64 av, Value.bool ah, Value.int IntKind.i64 av, Value.bool ah, Value.int IntKind.i64 0, Value.int IntKind.i64 0, Value.bool false, itv x, .pointer (some ⟨tq, 0, none⟩), x18, undef, undef, Value.tuple #[Value.int IntKind.i64 av, Value.bool ah], Value.pointer (some { block := wb, off := 0 }), Value.int IntKind.i64 id, Value.tuple #[Value.int IntKind.i64 av, Value.bool ah], Value.int IntKind.i64 av, Value.bool ah, Value.tuple #[Value.int IntKind.i64 av, Value.bool ah], Value.pointer (some { block := rb, off := 0 }), Value.int IntKind.i64 id, Value.tuple #[Value.int IntKind.i64 av, Value.bool ah], Value.int IntKind.i64 av, Value.bool ah, Value.tuple #[Value.int IntKind.i64 0, Value.int IntKind.i64 0, Value.bool false], Value.pointer (some { block := wb, off := 0 }), Value.tuple #[Value.int IntKind.i64 0, Value.int IntKind.i64 0, Value.bool false], Value.int IntKind.i64 0, Value.int IntKind.i64 0, Value.bool false, Value.int IntKind.i64 av, Value.int IntKind.i64 av, Value.bool false, Value.bool false, Value.bool ah, Value.bool ah, Value.bool false, Value.bool false, Value.bool false, Value.pointer (some { block := wb, off := 0 }), Value.int IntKind.i64 0, Value.pointer (some { block := rb, off := 0 }), Value.pointer (some { block := rb, off := 0 }), Value.pointer (some { block := rb, off := 0 }), Value.slice ao 0 cp, Value.int IntKind.i64 0, Value.bool false, Value.bool false, Value.bool false, Value.bool false, Value.pointer (some { block := rb, off := 0 }), Value.pointer (some { block := rb, off := 0 }), Value.pointer (some { block := rb, off := 0 }), Value.slice ao 0 cp, Value.int IntKind.i64 0, Value.bool false, Value.bool false, Value.bool false, Value.bool false, Value.bool false, undef, undef, undef, undef, undef, undef, undef, undef, undef, undef, undef, undef, undef, undef, undef, undef, undef, undef, undef, undef, Value.bool false, Value.bool false, Value.bool false, Value.bool true, Value.bool true, Value.int IntKind.i64 0, Value.bool false, Value.bool false, Value.int IntKind.i64 0, Value.bool false, Value.bool false, Value.bool false, Value.bool false, Value.pointer (some { block := wb, off := 0 }), itv x, itv x, Value.bool false, x106, x107, x108, x109, x110, undef, undef, undef, undef, undef, undef, undef, undef, undef, undef, undef, undef, undef, undef, undef, undef, undef, undef, undef, undef, undef, undef, undef, undef, undef, undef, undef, undef, undef, undef, undef, undef, undef, undef, undef, undef, undef, undef, undef, undef, undef, undef, x153, x154, x155, x156, x157, x158, x159, x160, x161, x162, x163, x164, x165, x166, x167, x168, x169], defers := marks Ds } ∧ Live ab W Ds ∧ Kp W5 W [] ∧ W.heap[tq]? = some (.cells #[.int .i64 t] 3 (0, 0)))
      (fun a1 _ => 2 - a1.defers.length) ⟨0, ab, [], _, _, _, _, _, _, _, _, _, _, _, _, _, _, _, _, _, _, _, _, _, _, _, by decide, rfl, Nat.le_refl _, rfl, ⟨by simp, by simp, by simp⟩, K6.out, T6.out⟩ ?_
    rintro a1 W ⟨t, tq, Ds, x18, x106, x107, x108, x109, x110, x153, x154, x155, x156, x157, x158, x159, x160, x161, x162, x163, x164, x165, x166, x167, x168, x169, htt, hDs, hbt, rfl, hLive, hKp, hTu⟩
    have c17 := cell_one hTu
    have f17 := free_one hTu
    have HLV := hid hLive
    have HKP := hid hKp
    have HTU := hid hTu
    have HDS := hid hDs
    clear hLive hKp hTu hDs K6 T6
    by_cases ht2 : t = 2
    · subst ht2
      have B := B5.out.keep HKP.out
      have c8 := cell_one B.b7
      have f8 := free_one B.b7
      have B7 := hid B.b7
      clear B
      gi_wp2
      go_wp2
      refine leaves_marks Ds _ (HLV.out.set B7.out (.bool true)) ?_
      have KZ := kp_shutR (rows := [a + 1 + 1]) Ds _ (HLV.out.set B7.out (.bool true)) (w := W5) (by have := HAB.out; omega) (HKP.out.past' (Kp.setCell W ⟨a + 1 + 1, 0, none⟩ (.bool true)))
      have KW := B5.out.kp.past KZ (by intro k hk hl; have := ha; simp at hk; omega)
      have hcell := cell_one (shut_cells Ds _ (HLV.out.set B7.out (.bool true)) (set_one (x := .bool true) B7.out))
      exact ⟨.bool true, by simp [results, Try.results10, go_sem, hcell], rfl, KW⟩
    have ht1 : (t : Int) < 2 := by omega
    refine wpIn_wide.2 ?_
    go_wp2_with fail
    obtain ⟨nb, hnb⟩ : ∃ nb, W.heap.size = nb := ⟨_, rfl⟩
    have N1 := hid (heap_alloc_new W (.cells #[.int .i64 0] 3))
    have KW1 := hid (Kp.alloc W (.cells #[.int .i64 0] 3) [])
    have I1 := hid ((I5.out.keep HKP.out).keep KW1.out)
    obtain ⟨W1, hW1⟩ : ∃ W1, W.alloc (.cells #[.int .i64 0] 3) = W1 := ⟨_, rfl⟩
    have hs1 : W1.heap.size = nb + 1 := by rw [← hW1, ← hnb]; simp
    rw [hnb] at N1
    rw [hW1] at N1 KW1 I1
    simp only [hnb, hW1]
    have HNB := hid hnb
    have HS1 := hid hs1
    have DL := hid (show ∀ D ∈ Ds, D < nb from fun D hm => by rw [← hnb]; exact lt_of_block (HLV.out.1 D hm))
    clear hnb hW1 c17 f17
    refine (wpIn_wide (n := 6)).1 ?_
    refine range_seqs (K := Kd bs L) (show 1 ≤ 6 by decide) (gf := 34) (lb := #[.pointer (some ⟨x, 0, none⟩)]) rfl (enters_of Try.func34 (by kernel_rfl) rfl)
      (it_seqs 5 (by decide) bs x L (by have := HN.out; omega) (Kd bs L) (fun A B v hk hd => hk v hd) W1 I1.out) (fun h1 h2 v hv => h2 v (h1 v hv)) (kd_put bs L) (Below.refl _ _) (fun _ => rfl)
      (fun pre V => V.heap[nb]? = some (.cells #[.int .i64 pre.length] 3 (0, 0)) ∧ Below W.heap.size W V)
      (fun _ _ _ => False)
      (OwnFrom.and (fun s A B row hs hg hr => cells_kept hs hg hr) (ownFrom_below (Nat.le_refl _) (by have := HNB.out; omega)))
      (fun cc s A B row hs hg hr => hs.elim)
      ⟨N1.out, KW1.out.below⟩
      (fun d => { tmps := #[Value.pointer (some { block := wb, off := 0 }), Value.pointer (some { block := rb, off := 0 }), Value.int IntKind.i64 id, Value.int IntKind.i64 leave, undef, Value.pointer (some { block := a, off := 0 }), undef, Value.pointer (some { block := a + 1, off := 0 }), Value.pointer (some { block := a + 1 + 1, off := 0 }), Value.int IntKind.i64 av, Value.bool ah, Value.int IntKind.i64 av, Value.bool ah, Value.int IntKind.i64 0, Value.int IntKind.i64 0, Value.bool false, itv x, .pointer (some ⟨tq, 0, none⟩), .pointer (some ⟨nb, 0, none⟩), .int .i64 d.1, .int .i64 d.2, Value.tuple #[Value.int IntKind.i64 av, Value.bool ah], Value.pointer (some { block := wb, off := 0 }), Value.int IntKind.i64 id, Value.tuple #[Value.int IntKind.i64 av, Value.bool ah], Value.int IntKind.i64 av, Value.bool ah, Value.tuple #[Value.int IntKind.i64 av, Value.bool ah], Value.pointer (some { block := rb, off := 0 }), Value.int IntKind.i64 id, Value.tuple #[Value.int IntKind.i64 av, Value.bool ah], Value.int IntKind.i64 av, Value.bool ah, Value.tuple #[Value.int IntKind.i64 0, Value.int IntKind.i64 0, Value.bool false], Value.pointer (some { block := wb, off := 0 }), Value.tuple #[Value.int IntKind.i64 0, Value.int IntKind.i64 0, Value.bool false], Value.int IntKind.i64 0, Value.int IntKind.i64 0, Value.bool false, Value.int IntKind.i64 av, Value.int IntKind.i64 av, Value.bool false, Value.bool false, Value.bool ah, Value.bool ah, Value.bool false, Value.bool false, Value.bool false, Value.pointer (some { block := wb, off := 0 }), Value.int IntKind.i64 0, Value.pointer (some { block := rb, off := 0 }), Value.pointer (some { block := rb, off := 0 }), Value.pointer (some { block := rb, off := 0 }), Value.slice ao 0 cp, Value.int IntKind.i64 0, Value.bool false, Value.bool false, Value.bool false, Value.bool false, Value.pointer (some { block := rb, off := 0 }), Value.pointer (some { block := rb, off := 0 }), Value.pointer (some { block := rb, off := 0 }), Value.slice ao 0 cp, Value.int IntKind.i64 0, Value.bool false, Value.bool false, Value.bool false, Value.bool false, Value.bool false, undef, undef, undef, undef, undef, undef, undef, undef, undef, undef, undef, undef, undef, undef, undef, undef, undef, undef, undef, undef, Value.bool false, Value.bool false, Value.bool false, Value.bool true, Value.bool true, Value.int IntKind.i64 0, Value.bool false, Value.bool false, Value.int IntKind.i64 0, Value.bool false, Value.bool false, Value.bool false, Value.bool false, Value.pointer (some { block := wb, off := 0 }), itv x, itv x, Value.bool false, .int .i64 t, .bool true, x108, x109, itv x, .int .i64 d.1, .int .i64 d.2, undef, undef, undef, undef, undef, undef, undef, undef, undef, undef, undef, undef, undef, undef, undef, undef, undef, undef, undef, undef, undef, undef, undef, undef, undef, undef, undef, undef, undef, undef, undef, undef, undef, undef, undef, undef, undef, undef, undef, undef, x153, x154, x155, x156, x157, x158, x159, x160, x161, x162, x163, x164, x165, x166, x167, x168, x169], defers := [] })
      ?assign ?body ?done ?stop
    case assign =>
      intro l d V K _ hK
      have HK := hid hK
      clear hK
      gi_wp2
      exact HK.out
    case body =>
      rintro l pre d V hpre ⟨hi1, hi2⟩
      have hltX : pre.length < L.length := by
        have := hpre.length_le
        simp at this
        omega
      have hlN := hltX
      rw [HN.out] at hlN
      omega
    case done =>
      rintro D V hD ⟨hi1, hi2⟩ hK
      rw [HN.out] at hi1
      have kV := HKP.out.trans (Kp.of_below hi2)
      have B := B5.out.keep kV
      have c5 := cell_one B.b5
      have c7 := cell_one B.b6
      have c9 := cell_one B.rf
      have c17 := cell_one ((hi2.block tq (lt_of_block HTU.out)).trans HTU.out)
      have c18 := cell_one hi1
      have KV := hid kV
      have LV := hid (show Live ab V Ds from ⟨fun E hE => (hi2.block E (lt_of_block (HLV.out.1 E hE))).trans (HLV.out.1 E hE), HLV.out.2⟩)
      have HK := hid hK
      have hmx : Try.prog.follows .mixedOrders = true := by kernel_rfl
      clear kV B hi1 hi2 hK
      have tn : (((0 : Nat) : Int) != ((0 : Nat) : Int)) = false := by simp
      gi_wp2
      go_wp2_with fail
      go_quiet (fail)
      have KQ := hid (Kp.drewN V nq [])
      obtain ⟨V2, hV2⟩ : ∃ V2, V.drewN nq = V2 := ⟨_, rfl⟩
      rw [hV2] at KQ ⊢
      have e17 := KQ.out.cell c17 (by simp)
      have KV2 := hid (KV.out.trans KQ.out)
      have LV2 := hid (show Live ab V2 Ds from ⟨fun E hE => (KQ.out.block E (lt_of_block (LV.out.1 E hE)) (by simp)).trans (LV.out.1 E hE), LV.out.2⟩)
      have HK2 := hid ((KQ.out.block D (lt_of_block HK.out) (by simp)).trans HK.out)
      clear hV2 c5 c7 c9 c17 c18
      go_wp2
      refine ⟨⟨t + 1, V2.heap.size, D :: Ds, _, _, _, _, _, _, _, _, _, _, _, _, _, _, _, _, _, _, _, _, _, _, _, by omega, by simp [HDS.out], by have h1 := KV2.out.size; have := HAB.out; omega, rfl, (LV2.out.alloc _).more ((Below.heap_alloc _ _ _ (lt_of_block HK2.out)).trans HK2.out) (fun E hE => by have := DL.out E hE; have := HNB.out; have := HS1.out; omega) (by have := HNB.out; have := HKP.out.size; have := HAB.out; have := HS1.out; omega), KV2.out.trans (Kp.alloc _ _ _), ?_⟩, by simp [marks, HDS.out]; omega⟩
      simpa using heap_alloc_new V2 (.cells #[.int .i64 ((t : Int) + 1)] 3)
    case stop =>
      rintro D cc pre V hD hpre hx
      exact hx.elim
end Go.Proofs.Ytoaceeddcnijoaa
