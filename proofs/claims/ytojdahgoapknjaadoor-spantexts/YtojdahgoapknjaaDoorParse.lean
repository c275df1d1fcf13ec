/- Parse: the walk. -/
import Derived.Test.YtojdahgoapknjaaDoorMarks
namespace Go.Proofs.YtojdahgoapknjaaDoor
open Go.RowKit Go.Shelf
set_option linter.unusedVariables false
attribute [local go_sem] Oper.semAt_some

/-- The numbers told so far; whether it is wrong. -/
def Tl (V : World) (pt : Nat) (a b : Int) : Prop := V.heap[pt]? = some (.cells #[.int .i64 a, .int .i64 b] 57 (0, 0))
def Wg (V : World) (p : Nat) (x : Bool) : Prop := V.heap[p]? = some (.cells #[.bool x] 4 (0, 0))
theorem Tl.c0 {V : World} {p : Nat} {a b : Int} (h : Tl V p a b) : V.cell? ⟨p, 0, none⟩ = some (.int .i64 a) := cell_two0 h
theorem Tl.c1 {V : World} {p : Nat} {a b : Int} (h : Tl V p a b) : V.cell? ⟨p, 1, none⟩ = some (.int .i64 b) := cell_two1 h
theorem Tl.f {V : World} {p i : Nat} {a b : Int} (h : Tl V p a b) : V.frozen? ⟨p, i, none⟩ = false := free_two h
def Sj (F B : List UInt8) (j : Nat) (a b : Int) : Prop := match j with
  | 0 => a = 0 ∧ b = 0
  | 1 => scan 0 (ds F) = some a ∧ b = 0
  | _ => scan 0 (ds F) = some a ∧ scan 0 (ds B) = some b
def Kx (x : Nat) (A C : World) : Prop := ∀ c t f, A.heap[x]? = some (.cells c t f) → C.heap[x]? = some (.cells c t f)
theorem Kx.trans {x : Nat} {A B C : World} (h : Kx x A B) (h' : Kx x B C) : Kx x A C := fun c t f hc => h' c t f (h c t f hc)
theorem kx_put (x : Nat) (W : World) (l : Nat) (o o' : Obj) (h : W.heap[l]? = some o) (hc : o.isCells = false) : Kx x W (W.putObj l o') := fun c t f hk => by
  have hne : x ≠ l := by
    rintro rfl
    rw [h] at hk
    cases hk
    simp [Obj.isCells] at hc
  exact (World.putObj_heap_other hne).trans hk
theorem scan_bd : ∀ (pre : List Int) (u v : Int), 0 ≤ u → u ≤ 2147483647 → scan u pre = some v → 0 ≤ v ∧ v ≤ 2147483647
  | [], u, v, h0, h1, h => by
    have : u = v := by simpa [scan] using h
    omega
  | d :: r, u, v, h0, h1, h => by
    unfold scan at h
    split at h
    · cases h
    · exact scan_bd r _ v (by omega) (by omega) h
theorem scan_app : ∀ (pre xs : List Int) (u : Int), scan u (pre ++ xs) = (scan u pre).bind fun v => scan v xs
  | [], xs, u => rfl
  | d :: r, xs, u => by
    rw [List.cons_append, scan, scan]
    split
    · rfl
    · exact scan_app r xs _
theorem idx0 (x y : ByteArray) (W : World) : (Instr.index 58 (.agg #[.string x, .string y]) (.int .i64 0)).run Tryd.prog W = .ok (.string x) W := by kernel_rfl
theorem idx1 (x y : ByteArray) (W : World) : (Instr.index 58 (.agg #[.string x, .string y]) (.int .i64 1)).run Tryd.prog W = .ok (.string y) W := by kernel_rfl
theorem tl_set0 {V : World} {p : Nat} {a b : Int} (h : Tl V p a b) (x : Int) : Tl (V.drew.setCell ⟨p, 0, none⟩ (.int .i64 x)) p x b := by
  have h' : V.drew.heap[p]? = some (.cells #[.int .i64 a, .int .i64 b] 57 (0, 0)) := h
  unfold Tl
  rw [heap_setCell_same V.drew p 0 _ 57 _ h']; rfl
theorem tl_set1 {V : World} {p : Nat} {a b : Int} (h : Tl V p a b) (x : Int) : Tl (V.drew.setCell ⟨p, 1, none⟩ (.int .i64 x)) p a x := by
  have h' : V.drew.heap[p]? = some (.cells #[.int .i64 a, .int .i64 b] 57 (0, 0)) := h
  unfold Tl
  rw [heap_setCell_same V.drew p 1 _ 57 _ h']; rfl
theorem wg_free {V : World} {p : Nat} {x : Bool} (h : Wg V p x) : V.frozen? ⟨p, 0, none⟩ = false := free_one h
theorem wg_set {V : World} {p : Nat} {x : Bool} (h : Wg V p x) (y : Bool) : Wg (V.setCell ⟨p, 0, none⟩ (.bool y)) p y := set_one h
theorem live_set {lo p i : Nat} {V : World} {Ds : List Nat} {a b : Int} {v : Value} (h : Live lo V Ds) (hT : Tl V p a b) : Live lo (V.drew.setCell ⟨p, i, none⟩ v) Ds :=
  ⟨fun D hm => (Below.heap_setCell V.drew ⟨p, i, none⟩ v D (fun e => by
    have h1 := h.1 D hm
    simp only at e
    rw [e, show V.heap[p]? = _ from hT] at h1
    simp at h1)).trans (h.1 D hm), h.2⟩
theorem live_bx {lo p i : Nat} {V : World} {Ds : List Nat} {c : Array Value} {t : TypeId} {f : Nat × Nat} (h : Live lo V Ds) (hb : V.heap[p]? = some (.cells c t f)) (v : Value) : Live lo (V.setCell ⟨p, i, none⟩ v) Ds :=
  ⟨fun D hm => (Below.heap_setCell V ⟨p, i, none⟩ v D (fun e => by
    have h1 := h.1 D hm
    simp only at e
    rw [e, hb] at h1
    simp at h1)).trans (h.1 D hm), h.2⟩
theorem live_two {lo p : Nat} {V : World} {Ds : List Nat} {s n : Int} (h : Live lo V Ds) (hb : Bx V p s n) (a b : Value) : Live lo ((V.setCell ⟨p, 0, none⟩ a).setCell ⟨p, 1, none⟩ b) Ds :=
  live_bx (live_bx h hb a) (heap_setCell_same V p 0 _ 23 a hb) b
theorem below_drew {n : Nat} {w V : World} (h : Below n w V) : Below n w V.drew := ⟨h.os, h.tape, h.output, h.size, h.block⟩
theorem keeps_drew (V : World) (p i : Nat) (v : Value) (B : Nat) : KeepsFrom B V (V.drew.setCell ⟨p, i, none⟩ v) := by
  have h := (KeepsOthers.setCell V.drew ⟨p, i, none⟩ v).from B
  exact ⟨h.size, h.same⟩
theorem keeps_set {B : Nat} {V V1 : World} (h : KeepsFrom B V V1) (q i : Nat) (v : Value) : KeepsFrom B V (V1.setCell ⟨q, i, none⟩ v) := by
  have h2 := (KeepsOthers.setCell V1 ⟨q, i, none⟩ v).from B
  exact ⟨Nat.le_trans h.size h2.size, fun k o hk hko ho => h2.same k o hk (h.same k o hk hko ho) ho⟩
theorem scan_bad {pre xs : List Int} {v x : Int} (h : scan 0 pre = some v) (hp : pre ++ [x] <+: xs) (hb : x < 0 ∨ 2147483647 < v * 10 + x) : scan 0 xs = none := by
  obtain ⟨r, rfl⟩ := hp
  rw [List.append_assoc, scan_app, h]
  show scan v (x :: r) = none
  rw [scan, if_pos hb]
theorem scan_good {pre : List Int} {v x : Int} (h : scan 0 pre = some v) (hb : ¬ (x < 0 ∨ 2147483647 < v * 10 + x)) : scan 0 (pre ++ [x]) = some (v * 10 + x) := by
  rw [scan_app, h]
  show scan v [x] = _
  rw [scan, if_neg hb]; rfl
theorem dig_bd (c : Nat) : -1 ≤ dig c ∧ dig c ≤ 9 := by unfold dig; split <;> omega
theorem ds_bd {l : List UInt8} {x : Int} (h : x ∈ ds l) : -1 ≤ x ∧ x ≤ 9 := by
  unfold ds at h
  obtain ⟨c, -, rfl⟩ := List.mem_map.1 h
  exact dig_bd _

set_option pp.deepTerms true in
set_option pp.maxSteps 10000000 in
set_option maxRecDepth 100000 in
set_option maxHeartbeats 4000000 in
theorem parse_main (w : World) (t F B : List UInt8) (hl : t.length < 1000000) (h : Wd w) (hF : cutF t = F) (hB : cutB t = B) (hn : nought F = false) (h0 : F ≠ []) (h9 : B.length = 9) : Calls Tryd.prog 25 #[.string ⟨t.toArray⟩] w fun x w' => x = .returned (match scan 0 (ds F), scan 0 (ds B) with | some a, some b => spE (a, b, 0) | _, _ => noE) ∧ Kp w w' [] := by
  have ct := fun w h => cut_any w t hl h
  have hfl := cutF_length t
  have hbl := cutB_length t
  rw [hF] at hfl
  rw [hB] at hbl
  have cn := fun w => nought_any w F (by omega)
  simp only [hF, hB, hn] at ct cn
  have HW := hid h
  have hc : ((⟨F.toArray⟩ : ByteArray) == ⟨#[]⟩) = false := by
    cases F with
    | nil => exact absurd rfl h0
    | cons c r => rw [beq_toListBytes, ByteArray.toList_eq, ByteArray.toList_eq]; rfl
  have hc2 : (F == []) = false := by cases F with | nil => exact absurd rfl h0 | cons c r => rfl
  have h9' : (((B.length : Nat) : Int) == 9) = true := by simp; omega
  have h9i : ((B.length : Nat) : Int) = 9 := by omega
  have HF := hid hF
  have H0 := hid h0
  have H9 := hid h9
  clear h hF hB hn h0 h9
  have p1 := hid (bx_new w 0 0)
  refine (callsIn_wide (n := 6)).1 ?_
  refine callsIn_of_wp_marks Tryd.func25 rfl trivial ?_ rfl
  simp only [Tryd.ntmps25, List.size_toArray, List.length_cons, List.length_nil, Nat.reduceAdd, Nat.reduceSub, Array.replicate_succ, Array.replicate_zero, List.push_toArray, List.append_toArray, List.nil_append, List.cons_append]
  refine wpIn_wide.2 ?_
  go_wp2_with fail
  go_step3
  go_wp2_with fail
  refine (ct _ (HW.out.keep (Kp.alloc _ _ _))).mono ?_
  rintro e w1 ⟨⟨f, rfl⟩, k1⟩
  have K1 := hid ((Kp.alloc w (ob 0 0) []).trans k1)
  have P1 := hid (p1.out.keep k1)
  clear k1 p1
  go_wp2_with fail
  refine (cn _).mono ?_
  rintro e w2 ⟨rfl, rfl⟩
  go_wp2_with fail
  go_step3
  go_wp2_with fail
  have k3 := hid ((Kp.alloc w2 (.cells #[.int .i64 0, .int .i64 0] 57) []).trans (Kp.alloc _ (.cells #[.bool false] 4) []))
  have t3 := hid ((Below.heap_alloc _ (.cells #[.bool false] 4) _ (by simp)).trans (heap_alloc_new w2 (.cells #[.int .i64 0, .int .i64 0] 57)))
  have g3 := heap_alloc_new (w2.alloc (.cells #[.int .i64 0, .int .i64 0] 57)) (.cells #[.bool false] 4)
  simp only [World.size_alloc] at g3
  have g3 := hid g3
  obtain ⟨W3, hW3⟩ : ∃ W3, (w2.alloc (.cells #[.int .i64 0, .int .i64 0] 57)).alloc (.cells #[.bool false] 4) = W3 := ⟨_, rfl⟩
  obtain ⟨pt, hpt⟩ : ∃ pt, w2.heap.size = pt := ⟨_, rfl⟩
  rw [hW3] at k3 t3 g3
  rw [hpt] at t3 g3
  simp only [hW3, hpt]
  have HPT := hid hpt
  clear hW3 hpt ct cn hc hc2 h9' h9i
  refine (wpIn_wide (n := 6)).1 ?_
  refine wpIn_loop (fun a0 W => ∃ (j : Nat) (a b : Int) (Ds : List Nat) (x9 x10 x34 x35 x36 x37 x38 x56 : Value), j ≤ 2 ∧ Ds.length = j ∧ a0 = { tmps := #[.string ⟨t.toArray⟩, undef, .pointer (some ⟨w.heap.size, 0, none⟩), .int .i64 0, .string ⟨F.toArray⟩, .string ⟨B.toArray⟩, .bool f, .pointer (some ⟨pt, 0, none⟩), .pointer (some ⟨pt + 1, 0, none⟩), x9, x10, undef, .tuple #[.string ⟨F.toArray⟩, .string ⟨B.toArray⟩, .bool f], .string ⟨t.toArray⟩, .tuple #[.string ⟨F.toArray⟩, .string ⟨B.toArray⟩, .bool f], .string ⟨F.toArray⟩, .string ⟨B.toArray⟩, .bool f, .string ⟨F.toArray⟩, .bool false, .bool false, .string ⟨F.toArray⟩, .bool false, .bool false, .bool false, .string ⟨B.toArray⟩, .int .i64 9, .bool false, .bool false, undef, .string ⟨F.toArray⟩, .string ⟨B.toArray⟩, .agg #[.string ⟨F.toArray⟩, .string ⟨B.toArray⟩], .int .i64 (j : Nat), x34, x35, x36, x37, x38, undef, undef, undef, undef, undef, undef, undef, undef, undef, undef, undef, undef, undef, undef, undef, undef, undef, x56, undef, undef, undef, undef, undef, undef, undef], defers := marks Ds } ∧ Live pt W Ds ∧ Kp w2 W [] ∧ Tl W pt a b ∧ Wg W (pt + 1) false ∧ Sj F B j a b)
    (fun a0 _ => 2 - a0.defers.length) ⟨0, 0, 0, [], _, _, _, _, _, _, _, _, by decide, rfl, rfl, ⟨by simp, by simp, by simp⟩, k3.out, t3.out, g3.out, ⟨rfl, rfl⟩⟩ ?_
  rintro a0 W ⟨j, a, b, Ds, x9, x10, x34, x35, x36, x37, x38, x56, hj, hDs, rfl, hLive, hKp, hTl, hWg, hSj⟩
  have HLV := hid hLive
  have HKP := hid hKp
  have HTL := hid hTl
  have HWG := hid hWg
  have HDS := hid hDs
  clear hLive hKp hTl hWg hDs
  have i0 := idx0 ⟨F.toArray⟩ ⟨B.toArray⟩
  have i1 := idx1 ⟨F.toArray⟩ ⟨B.toArray⟩
  have mixed : Tryd.prog.follows .mixedOrders = true := by kernel_rfl
  rcases (show j = 0 ∨ j = 1 ∨ j = 2 by omega) with rfl | rfl | rfl
  · obtain ⟨rfl, rfl⟩ := hSj
    gi_wp2_with fail
    refine ⟨trivial, ((callsIn_wide (n := 5)).2 (digits_any _ F)).mono ?_⟩
    rintro e w' ⟨rfl, rfl⟩
    gi_wp2_with fail
    obtain ⟨ib, hib⟩ : ∃ ib, W.heap.size = ib := ⟨_, rfl⟩
    have A1 := hid ((Below.heap_alloc _ (.cells #[.string ⟨F.toArray⟩] 9) _ (by simp)).trans (heap_alloc_new W (.cells #[.int .i64 0] 3)))
    have A2 := heap_alloc_new (W.alloc (.cells #[.int .i64 0] 3)) (.cells #[.string ⟨F.toArray⟩] 9)
    simp only [World.size_alloc] at A2
    have A2 := hid A2
    have KA := hid ((Kp.alloc W (.cells #[.int .i64 0] 3) []).trans (Kp.alloc _ (.cells #[.string ⟨F.toArray⟩] 9) []))
    obtain ⟨W1, hW1⟩ : ∃ W1, (W.alloc (.cells #[.int .i64 0] 3)).alloc (.cells #[.string ⟨F.toArray⟩] 9) = W1 := ⟨_, rfl⟩
    have hs1 : W1.heap.size = ib + 2 := by rw [← hW1, ← hib]; simp
    rw [hW1] at A1 A2 KA
    rw [hib] at A1 A2
    simp only [hib, hW1]
    have ptl : pt + 1 < ib := by rw [← hib]; exact lt_of_block HWG.out
    have DL := hid (show ∀ D ∈ Ds, D < W1.heap.size from fun D hm => by have := lt_of_block (HLV.out.1 D hm); omega)
    have T1 := hid (show Tl W1 pt 0 0 from (KA.out.block pt (by omega) (by simp)).trans HTL.out)
    have G1 := hid (show Wg W1 (pt + 1) false from (KA.out.block (pt + 1) (by omega) (by simp)).trans HWG.out)
    have L1 := hid (show Live pt W1 Ds from ⟨fun D hm => (KA.out.block D (lt_of_block (HLV.out.1 D hm)) (by simp)).trans (HLV.out.1 D hm), HLV.out.2⟩)
    have B1 := hid (show Below w2.heap.size w2 W1 from (HKP.out.trans KA.out).below)
    have HIB := hid hib
    have HS1 := hid hs1
    clear hib hW1 hs1
    refine range_seqs (K := Kx (ib + 1)) (show 1 ≤ 6 by decide) (gf := 38) (lb := #[.pointer (some ⟨ib + 1, 0, none⟩)]) rfl (enters_of Tryd.func38 (by kernel_rfl) rfl)
      (digits_seqs 5 (by decide) F (by omega) (ib + 1) _ (fun _ _ h c hc => h c _ _ hc) W1 A2.out) Kx.trans (kx_put _) (Below.refl _ _) (fun _ => rfl)
      (fun pre V => ((∃ v, scan 0 pre = some v ∧ Tl V pt v 0) ∧ Wg V (pt + 1) false ∧ V.heap[ib]? = some (.cells #[.int .i64 0] 3 (0, 0))) ∧ Live pt V Ds ∧ Below w2.heap.size w2 V)
      (fun cc _ V => (cc = .exit 0 ∧ scan 0 (ds F) = none ∧ Wg V (pt + 1) true) ∧ Live pt V Ds ∧ Below w2.heap.size w2 V)
      (fun s A C row hs hg hr => ⟨⟨by obtain ⟨v, h1, h2⟩ := hs.1.1; exact ⟨v, h1, cells_kept h2 hg hr⟩, cells_kept hs.1.2.1 hg hr, cells_kept hs.1.2.2 hg hr⟩, hs.2.1.own DL.out hg (fun r e => (hr r e).1), (ownFrom_below (β := Unit) (w₀ := w2) (Nat.le_refl _) (show w2.heap.size ≤ W1.heap.size by have := B1.out.size; exact this)) () A C row hs.2.2 hg hr⟩)
      (fun cc s A C row hs hg hr => ⟨⟨hs.1.1, hs.1.2.1, cells_kept hs.1.2.2 hg hr⟩, hs.2.1.own DL.out hg (fun r e => (hr r e).1), (ownFrom_below (β := Unit) (w₀ := w2) (Nat.le_refl _) (show w2.heap.size ≤ W1.heap.size by have := B1.out.size; exact this)) () A C row hs.2.2 hg hr⟩)
      ⟨⟨⟨0, rfl, T1.out⟩, G1.out, A1.out⟩, L1.out, B1.out⟩
      (fun x => { tmps := #[.string ⟨t.toArray⟩, undef, .pointer (some ⟨w.heap.size, 0, none⟩), .int .i64 0, .string ⟨F.toArray⟩, .string ⟨B.toArray⟩, .bool f, .pointer (some ⟨pt, 0, none⟩), .pointer (some ⟨pt + 1, 0, none⟩), .pointer (some ⟨ib, 0, none⟩), .string ⟨F.toArray⟩, .int .i64 x, .tuple #[.string ⟨F.toArray⟩, .string ⟨B.toArray⟩, .bool f], .string ⟨t.toArray⟩, .tuple #[.string ⟨F.toArray⟩, .string ⟨B.toArray⟩, .bool f], .string ⟨F.toArray⟩, .string ⟨B.toArray⟩, .bool f, .string ⟨F.toArray⟩, .bool false, .bool false, .string ⟨F.toArray⟩, .bool false, .bool false, .bool false, .string ⟨B.toArray⟩, .int .i64 9, .bool false, .bool false, undef, .string ⟨F.toArray⟩, .string ⟨B.toArray⟩, .agg #[.string ⟨F.toArray⟩, .string ⟨B.toArray⟩], .int .i64 0, .bool true, .int .i64 0, .string ⟨F.toArray⟩, .string ⟨F.toArray⟩, .func (.func 38) #[] #[.pointer (some ⟨ib + 1, 0, none⟩)], .int .i64 x, undef, undef, undef, undef, undef, undef, undef, undef, undef, undef, undef, undef, undef, undef, undef, undef, x56, undef, undef, undef, undef, undef, undef, undef], defers := [] })
      ?assign ?body ?done ?stop
    case assign =>
      intro lq x V K _ hK
      have HK := hid hK
      clear hK
      gi_wp2
      exact HK.out
    case body =>
      rintro lq pre x V hpre ⟨⟨⟨v, hv, hT⟩, hG, hI⟩, hL, hBl⟩
      have hvb := scan_bd pre 0 v (by decide) (by decide) hv
      have hxb := ds_bd (hpre.subset (show x ∈ pre ++ [x] by simp))
      have HP := hid hpre
      have HV := hid hv
      have z0 := Tl.c0 hT
      have z1 := Tl.c1 hT
      have z2 := Tl.f (i := 0) hT
      have z3 := cell_one1 hI
      have HT := hid hT
      have HG := hid hG
      have HI := hid hI
      have HL := hid hL
      have HBl := hid hBl
      have wm : IntKind.i64.wrap (v * 10) = v * 10 := wrap_id ⟨by omega, by omega⟩
      have wa : IntKind.i64.wrap (v * 10 + x) = v * 10 + x := wrap_id ⟨by omega, by omega⟩
      clear hpre hv hT hG hI hL hBl
      gi_wp2_with fail
      refine Code.wpIn_mono (Q := fun e a' V' => e = .normal ∧ a' = { tmps := #[.string ⟨t.toArray⟩, undef, .pointer (some ⟨w.heap.size, 0, none⟩), .int .i64 0, .string ⟨F.toArray⟩, .string ⟨B.toArray⟩, .bool f, .pointer (some ⟨pt, 0, none⟩), .pointer (some ⟨pt + 1, 0, none⟩), .pointer (some ⟨ib, 0, none⟩), .string ⟨F.toArray⟩, .int .i64 x, .tuple #[.string ⟨F.toArray⟩, .string ⟨B.toArray⟩, .bool f], .string ⟨t.toArray⟩, .tuple #[.string ⟨F.toArray⟩, .string ⟨B.toArray⟩, .bool f], .string ⟨F.toArray⟩, .string ⟨B.toArray⟩, .bool f, .string ⟨F.toArray⟩, .bool false, .bool false, .string ⟨F.toArray⟩, .bool false, .bool false, .bool false, .string ⟨B.toArray⟩, .int .i64 9, .bool false, .bool false, undef, .string ⟨F.toArray⟩, .string ⟨B.toArray⟩, .agg #[.string ⟨F.toArray⟩, .string ⟨B.toArray⟩], .int .i64 0, .bool true, .int .i64 0, .string ⟨F.toArray⟩, .string ⟨F.toArray⟩, .func (.func 38) #[] #[.pointer (some ⟨ib + 1, 0, none⟩)], .int .i64 x, .int .i64 0, .int .i64 0, .pointer (some ⟨pt, 0, none⟩), .int .i64 v, .int .i64 (v * 10), .int .i64 x, .int .i64 (v * 10 + x), .pointer (some ⟨pt, 0, none⟩), undef, undef, undef, undef, undef, undef, undef, undef, x56, undef, undef, undef, undef, undef, undef, undef], defers := [] } ∧ V' = V.drew.setCell ⟨pt, 0, none⟩ (.int .i64 (v * 10 + x))) ?_ ?_
      rotate_left
      · gi_region_with_o fail
        all_goals exact ⟨rfl, rfl, rfl⟩
      rintro e a' V' ⟨rfl, rfl, rfl⟩
      dsimp only
      have n1 : ib ≠ pt := by omega
      have n2 : ib ≠ pt + 1 := by omega
      have TT := hid (tl_set0 HT.out (v * 10 + x))
      have II := hid (show (V.drew.setCell ⟨pt, 0, none⟩ (.int .i64 (v * 10 + x))).heap[ib]? = some (.cells #[.int .i64 0] 3 (0, 0)) from (Below.heap_setCell V.drew ⟨pt, 0, none⟩ _ ib (by simp; omega)).trans HI.out)
      have GG := hid (show Wg (V.drew.setCell ⟨pt, 0, none⟩ (.int .i64 (v * 10 + x))) (pt + 1) false from (Below.heap_setCell V.drew ⟨pt, 0, none⟩ _ (pt + 1) (by simp)).trans HG.out)
      have LL := hid (show Live pt (V.drew.setCell ⟨pt, 0, none⟩ (.int .i64 (v * 10 + x))) Ds from live_set HL.out HT.out)
      have BB := hid (show Below w2.heap.size w2 (V.drew.setCell ⟨pt, 0, none⟩ (.int .i64 (v * 10 + x))) from (below_drew HBl.out).setCell (p := ⟨pt, 0, none⟩) (by have := HPT.out; simp; omega) _)
      have KO := hid (show KeepsFrom W1.heap.size V (V.drew.setCell ⟨pt, 0, none⟩ (.int .i64 (v * 10 + x))) from keeps_drew V pt 0 _ W1.heap.size)
      have KX := hid (show Kx (ib + 1) V (V.drew.setCell ⟨pt, 0, none⟩ (.int .i64 (v * 10 + x))) from fun c t f hc => (Below.heap_setCell V.drew ⟨pt, 0, none⟩ _ (ib + 1) (by simp; omega)).trans hc)
      obtain ⟨V1, hV1⟩ : ∃ V1, V.drew.setCell ⟨pt, 0, none⟩ (.int .i64 (v * 10 + x)) = V1 := ⟨_, rfl⟩
      rw [hV1] at TT II GG LL BB KO KX
      rw [hV1]
      have y0 := Tl.c0 TT.out
      have y1 := cell_one1 II.out
      have y2 := wg_free GG.out
      have y3 := cell_one1 GG.out
      clear hV1 z0 z1 z2 z3 n1 n2
      by_cases hbad : x < 0 ∨ 2147483647 < v * 10 + x
      · have HN := hid (scan_bad HV.out HP.out hbad)
        by_cases hx0 : x < 0
        · have hx1 : decide (x < 0) = true := by simp; omega
          gi_wp2
          exact ⟨keeps_set KO.out _ _ _, ⟨⟨rfl, HN.out, wg_set GG.out true⟩, LL.out.set GG.out _, BB.out.setCell (p := ⟨pt + 1, 0, none⟩) (by have := HPT.out; simp; omega) _⟩⟩
        · have hx1 : decide (x < 0) = false := by simp; omega
          have hx2 : (2147483647 : Int) < v * 10 + x := by omega
          gi_wp2
          exact ⟨keeps_set KO.out _ _ _, ⟨⟨rfl, HN.out, wg_set GG.out true⟩, LL.out.set GG.out _, BB.out.setCell (p := ⟨pt + 1, 0, none⟩) (by have := HPT.out; simp; omega) _⟩⟩
      · have HS := hid (scan_good HV.out hbad)
        have hx0 : ¬ x < 0 := by omega
        have hx1 : decide (x < 0) = false := by simp; omega
        have hx2 : ¬ (2147483647 : Int) < v * 10 + x := by omega
        gi_wp2
        exact ⟨KO.out, KX.out, ⟨⟨⟨_, HS.out, TT.out⟩, GG.out, II.out⟩, LL.out, BB.out⟩⟩
    case done =>
      rintro D V hD ⟨⟨⟨v, hv, hT⟩, hG, hI⟩, hL, hBl⟩ hK
      have HV := hid hv
      have HT := hid hT
      have HG := hid hG
      have HL := hid hL
      have HBl := hid hBl
      have HK := hid hK
      clear hv hT hG hI hL hBl hK
      gi_wp2
      exact ⟨⟨1, v, 0, D :: Ds, _, _, _, _, _, _, _, _, by omega, by simp [HDS.out], rfl, HL.out.more HK.out (fun E hE => by have := DL.out E hE; omega) (by have := HS1.out; omega), Kp.of_below HBl.out, HT.out, HG.out, ⟨HV.out, rfl⟩⟩, by simp [marks, HDS.out]⟩
    case stop =>
      rintro D cc pre V hD hpre ⟨⟨rfl, hN, hG⟩, hL, hBl⟩ hK
      have KV := hid (Kp.of_below hBl)
      have PV := hid (P1.out.keep KV.out)
      have LV := hid (Live.more hL hK (fun E hE => by have := DL.out E hE; omega) (show pt ≤ D by have := HS1.out; omega))
      have y0 := cell_one1 hG
      have y1 := PV.out.c0
      have y2 := PV.out.c1
      have y3 := PV.out.f0
      have y4 := PV.out.f1
      have HN := hid hN
      clear hN hG hL hBl hK hpre hD
      gi_wp2
      go_wp2
      have LW := live_two LV.out PV.out (.int .i64 0) (.int .i64 0)
      refine leaves_marks (D :: Ds) _ LW ?_
      have hbx : Bx (shut _ (D :: Ds)) w.heap.size 0 0 := shut_cells (D :: Ds) _ LW (PV.out.set 0 0)
      refine ⟨spE (0, 0, 4), by simp [results, Tryd.results25, go_sem, hbx.c0, hbx.c1], by rw [HN.out], kp_shut (D :: Ds) _ LW (w := w) (by have := K1.out.size; have := HPT.out; omega) ((K1.out.trans KV.out).store2 (Nat.le_refl _) _ _)⟩
  · obtain ⟨hSa, rfl⟩ := hSj
    have HSA := hid hSa
    clear hSa
    gi_wp2_with fail
    refine ⟨trivial, ((callsIn_wide (n := 5)).2 (digits_any _ B)).mono ?_⟩
    rintro e w' ⟨rfl, rfl⟩
    gi_wp2_with fail
    obtain ⟨ib, hib⟩ : ∃ ib, W.heap.size = ib := ⟨_, rfl⟩
    have A1 := hid ((Below.heap_alloc _ (.cells #[.string ⟨B.toArray⟩] 9) _ (by simp)).trans (heap_alloc_new W (.cells #[.int .i64 1] 3)))
    have A2 := heap_alloc_new (W.alloc (.cells #[.int .i64 1] 3)) (.cells #[.string ⟨B.toArray⟩] 9)
    simp only [World.size_alloc] at A2
    have A2 := hid A2
    have KA := hid ((Kp.alloc W (.cells #[.int .i64 1] 3) []).trans (Kp.alloc _ (.cells #[.string ⟨B.toArray⟩] 9) []))
    obtain ⟨W1, hW1⟩ : ∃ W1, (W.alloc (.cells #[.int .i64 1] 3)).alloc (.cells #[.string ⟨B.toArray⟩] 9) = W1 := ⟨_, rfl⟩
    have hs1 : W1.heap.size = ib + 2 := by rw [← hW1, ← hib]; simp
    rw [hW1] at A1 A2 KA
    rw [hib] at A1 A2
    simp only [hib, hW1]
    have ptl : pt + 1 < ib := by rw [← hib]; exact lt_of_block HWG.out
    have DL := hid (show ∀ D ∈ Ds, D < W1.heap.size from fun D hm => by have := lt_of_block (HLV.out.1 D hm); omega)
    have T1 := hid (show Tl W1 pt a 0 from (KA.out.block pt (by omega) (by simp)).trans HTL.out)
    have G1 := hid (show Wg W1 (pt + 1) false from (KA.out.block (pt + 1) (by omega) (by simp)).trans HWG.out)
    have L1 := hid (show Live pt W1 Ds from ⟨fun D hm => (KA.out.block D (lt_of_block (HLV.out.1 D hm)) (by simp)).trans (HLV.out.1 D hm), HLV.out.2⟩)
    have B1 := hid (show Below w2.heap.size w2 W1 from (HKP.out.trans KA.out).below)
    have HIB := hid hib
    have HS1 := hid hs1
    clear hib hW1 hs1
    refine range_seqs (K := Kx (ib + 1)) (show 1 ≤ 6 by decide) (gf := 38) (lb := #[.pointer (some ⟨ib + 1, 0, none⟩)]) rfl (enters_of Tryd.func38 (by kernel_rfl) rfl)
      (digits_seqs 5 (by decide) B (by omega) (ib + 1) _ (fun _ _ h c hc => h c _ _ hc) W1 A2.out) Kx.trans (kx_put _) (Below.refl _ _) (fun _ => rfl)
      (fun pre V => ((∃ v, scan 0 pre = some v ∧ Tl V pt a v) ∧ Wg V (pt + 1) false ∧ V.heap[ib]? = some (.cells #[.int .i64 1] 3 (0, 0))) ∧ Live pt V Ds ∧ Below w2.heap.size w2 V)
      (fun cc _ V => (cc = .exit 0 ∧ scan 0 (ds B) = none ∧ Wg V (pt + 1) true) ∧ Live pt V Ds ∧ Below w2.heap.size w2 V)
      (fun s A C row hs hg hr => ⟨⟨by obtain ⟨v, h1, h2⟩ := hs.1.1; exact ⟨v, h1, cells_kept h2 hg hr⟩, cells_kept hs.1.2.1 hg hr, cells_kept hs.1.2.2 hg hr⟩, hs.2.1.own DL.out hg (fun r e => (hr r e).1), (ownFrom_below (β := Unit) (w₀ := w2) (Nat.le_refl _) (show w2.heap.size ≤ W1.heap.size by have := B1.out.size; exact this)) () A C row hs.2.2 hg hr⟩)
      (fun cc s A C row hs hg hr => ⟨⟨hs.1.1, hs.1.2.1, cells_kept hs.1.2.2 hg hr⟩, hs.2.1.own DL.out hg (fun r e => (hr r e).1), (ownFrom_below (β := Unit) (w₀ := w2) (Nat.le_refl _) (show w2.heap.size ≤ W1.heap.size by have := B1.out.size; exact this)) () A C row hs.2.2 hg hr⟩)
      ⟨⟨⟨0, rfl, T1.out⟩, G1.out, A1.out⟩, L1.out, B1.out⟩
      (fun x => { tmps := #[.string ⟨t.toArray⟩, undef, .pointer (some ⟨w.heap.size, 0, none⟩), .int .i64 0, .string ⟨F.toArray⟩, .string ⟨B.toArray⟩, .bool f, .pointer (some ⟨pt, 0, none⟩), .pointer (some ⟨pt + 1, 0, none⟩), .pointer (some ⟨ib, 0, none⟩), .string ⟨B.toArray⟩, .int .i64 x, .tuple #[.string ⟨F.toArray⟩, .string ⟨B.toArray⟩, .bool f], .string ⟨t.toArray⟩, .tuple #[.string ⟨F.toArray⟩, .string ⟨B.toArray⟩, .bool f], .string ⟨F.toArray⟩, .string ⟨B.toArray⟩, .bool f, .string ⟨F.toArray⟩, .bool false, .bool false, .string ⟨F.toArray⟩, .bool false, .bool false, .bool false, .string ⟨B.toArray⟩, .int .i64 9, .bool false, .bool false, undef, .string ⟨F.toArray⟩, .string ⟨B.toArray⟩, .agg #[.string ⟨F.toArray⟩, .string ⟨B.toArray⟩], .int .i64 1, .bool true, .int .i64 1, .string ⟨B.toArray⟩, .string ⟨B.toArray⟩, .func (.func 38) #[] #[.pointer (some ⟨ib + 1, 0, none⟩)], .int .i64 x, undef, undef, undef, undef, undef, undef, undef, undef, undef, undef, undef, undef, undef, undef, undef, undef, x56, undef, undef, undef, undef, undef, undef, undef], defers := [] })
      ?assign ?body ?done ?stop
    case assign =>
      intro lq x V K _ hK
      have HK := hid hK
      clear hK
      gi_wp2
      exact HK.out
    case body =>
      rintro lq pre x V hpre ⟨⟨⟨v, hv, hT⟩, hG, hI⟩, hL, hBl⟩
      have hvb := scan_bd pre 0 v (by decide) (by decide) hv
      have hxb := ds_bd (hpre.subset (show x ∈ pre ++ [x] by simp))
      have HP := hid hpre
      have HV := hid hv
      have z0 := Tl.c0 hT
      have z1 := Tl.c1 hT
      have z2 := Tl.f (i := 1) hT
      have z3 := cell_one1 hI
      have HT := hid hT
      have HG := hid hG
      have HI := hid hI
      have HL := hid hL
      have HBl := hid hBl
      have wm : IntKind.i64.wrap (v * 10) = v * 10 := wrap_id ⟨by omega, by omega⟩
      have wa : IntKind.i64.wrap (v * 10 + x) = v * 10 + x := wrap_id ⟨by omega, by omega⟩
      clear hpre hv hT hG hI hL hBl
      gi_wp2_with fail
      refine Code.wpIn_mono (Q := fun e a' V' => e = .normal ∧ a' = { tmps := #[.string ⟨t.toArray⟩, undef, .pointer (some ⟨w.heap.size, 0, none⟩), .int .i64 0, .string ⟨F.toArray⟩, .string ⟨B.toArray⟩, .bool f, .pointer (some ⟨pt, 0, none⟩), .pointer (some ⟨pt + 1, 0, none⟩), .pointer (some ⟨ib, 0, none⟩), .string ⟨B.toArray⟩, .int .i64 x, .tuple #[.string ⟨F.toArray⟩, .string ⟨B.toArray⟩, .bool f], .string ⟨t.toArray⟩, .tuple #[.string ⟨F.toArray⟩, .string ⟨B.toArray⟩, .bool f], .string ⟨F.toArray⟩, .string ⟨B.toArray⟩, .bool f, .string ⟨F.toArray⟩, .bool false, .bool false, .string ⟨F.toArray⟩, .bool false, .bool false, .bool false, .string ⟨B.toArray⟩, .int .i64 9, .bool false, .bool false, undef, .string ⟨F.toArray⟩, .string ⟨B.toArray⟩, .agg #[.string ⟨F.toArray⟩, .string ⟨B.toArray⟩], .int .i64 1, .bool true, .int .i64 1, .string ⟨B.toArray⟩, .string ⟨B.toArray⟩, .func (.func 38) #[] #[.pointer (some ⟨ib + 1, 0, none⟩)], .int .i64 x, .int .i64 1, .int .i64 1, .pointer (some ⟨pt, 1, none⟩), .int .i64 v, .int .i64 (v * 10), .int .i64 x, .int .i64 (v * 10 + x), .pointer (some ⟨pt, 1, none⟩), undef, undef, undef, undef, undef, undef, undef, undef, x56, undef, undef, undef, undef, undef, undef, undef], defers := [] } ∧ V' = V.drew.setCell ⟨pt, 1, none⟩ (.int .i64 (v * 10 + x))) ?_ ?_
      rotate_left
      · gi_region_with_o fail
        all_goals exact ⟨rfl, rfl, rfl⟩
      rintro e a' V' ⟨rfl, rfl, rfl⟩
      dsimp only
      have n1 : ib ≠ pt := by omega
      have n2 : ib ≠ pt + 1 := by omega
      have TT := hid (tl_set1 HT.out (v * 10 + x))
      have II := hid (show (V.drew.setCell ⟨pt, 1, none⟩ (.int .i64 (v * 10 + x))).heap[ib]? = some (.cells #[.int .i64 1] 3 (0, 0)) from (Below.heap_setCell V.drew ⟨pt, 1, none⟩ _ ib (by simp; omega)).trans HI.out)
      have GG := hid (show Wg (V.drew.setCell ⟨pt, 1, none⟩ (.int .i64 (v * 10 + x))) (pt + 1) false from (Below.heap_setCell V.drew ⟨pt, 1, none⟩ _ (pt + 1) (by simp)).trans HG.out)
      have LL := hid (show Live pt (V.drew.setCell ⟨pt, 1, none⟩ (.int .i64 (v * 10 + x))) Ds from live_set HL.out HT.out)
      have BB := hid (show Below w2.heap.size w2 (V.drew.setCell ⟨pt, 1, none⟩ (.int .i64 (v * 10 + x))) from (below_drew HBl.out).setCell (p := ⟨pt, 1, none⟩) (by have := HPT.out; simp; omega) _)
      have KO := hid (show KeepsFrom W1.heap.size V (V.drew.setCell ⟨pt, 1, none⟩ (.int .i64 (v * 10 + x))) from keeps_drew V pt 1 _ W1.heap.size)
      have KX := hid (show Kx (ib + 1) V (V.drew.setCell ⟨pt, 1, none⟩ (.int .i64 (v * 10 + x))) from fun c t f hc => (Below.heap_setCell V.drew ⟨pt, 1, none⟩ _ (ib + 1) (by simp; omega)).trans hc)
      obtain ⟨V1, hV1⟩ : ∃ V1, V.drew.setCell ⟨pt, 1, none⟩ (.int .i64 (v * 10 + x)) = V1 := ⟨_, rfl⟩
      rw [hV1] at TT II GG LL BB KO KX
      rw [hV1]
      have y0 := Tl.c1 TT.out
      have y1 := cell_one1 II.out
      have y2 := wg_free GG.out
      have y3 := cell_one1 GG.out
      clear hV1 z0 z1 z2 z3 n1 n2
      by_cases hbad : x < 0 ∨ 2147483647 < v * 10 + x
      · have HN := hid (scan_bad HV.out HP.out hbad)
        by_cases hx0 : x < 0
        · have hx1 : decide (x < 0) = true := by simp; omega
          gi_wp2
          exact ⟨keeps_set KO.out _ _ _, ⟨⟨rfl, HN.out, wg_set GG.out true⟩, LL.out.set GG.out _, BB.out.setCell (p := ⟨pt + 1, 0, none⟩) (by have := HPT.out; simp; omega) _⟩⟩
        · have hx1 : decide (x < 0) = false := by simp; omega
          have hx2 : (2147483647 : Int) < v * 10 + x := by omega
          gi_wp2
          exact ⟨keeps_set KO.out _ _ _, ⟨⟨rfl, HN.out, wg_set GG.out true⟩, LL.out.set GG.out _, BB.out.setCell (p := ⟨pt + 1, 0, none⟩) (by have := HPT.out; simp; omega) _⟩⟩
      · have HS := hid (scan_good HV.out hbad)
        have hx0 : ¬ x < 0 := by omega
        have hx1 : decide (x < 0) = false := by simp; omega
        have hx2 : ¬ (2147483647 : Int) < v * 10 + x := by omega
        gi_wp2
        exact ⟨KO.out, KX.out, ⟨⟨⟨_, HS.out, TT.out⟩, GG.out, II.out⟩, LL.out, BB.out⟩⟩
    case done =>
      rintro D V hD ⟨⟨⟨v, hv, hT⟩, hG, hI⟩, hL, hBl⟩ hK
      have HV := hid hv
      have HT := hid hT
      have HG := hid hG
      have HL := hid hL
      have HBl := hid hBl
      have HK := hid hK
      clear hv hT hG hI hL hBl hK
      gi_wp2
      exact ⟨⟨2, a, v, D :: Ds, _, _, _, _, _, _, _, _, by omega, by simp [HDS.out], rfl, HL.out.more HK.out (fun E hE => by have := DL.out E hE; omega) (by have := HS1.out; omega), Kp.of_below HBl.out, HT.out, HG.out, ⟨HSA.out, HV.out⟩⟩, by simp [marks, HDS.out]⟩
    case stop =>
      rintro D cc pre V hD hpre ⟨⟨rfl, hN, hG⟩, hL, hBl⟩ hK
      have KV := hid (Kp.of_below hBl)
      have PV := hid (P1.out.keep KV.out)
      have LV := hid (Live.more hL hK (fun E hE => by have := DL.out E hE; omega) (show pt ≤ D by have := HS1.out; omega))
      have y0 := cell_one1 hG
      have y1 := PV.out.c0
      have y2 := PV.out.c1
      have y3 := PV.out.f0
      have y4 := PV.out.f1
      have HN := hid hN
      clear hN hG hL hBl hK hpre hD
      gi_wp2
      go_wp2
      have LW := live_two LV.out PV.out (.int .i64 0) (.int .i64 0)
      refine leaves_marks (D :: Ds) _ LW ?_
      have hbx : Bx (shut _ (D :: Ds)) w.heap.size 0 0 := shut_cells (D :: Ds) _ LW (PV.out.set 0 0)
      refine ⟨spE (0, 0, 4), by simp [results, Tryd.results25, go_sem, hbx.c0, hbx.c1], by rw [HSA.out, HN.out], kp_shut (D :: Ds) _ LW (w := w) (by have := K1.out.size; have := HPT.out; omega) ((K1.out.trans KV.out).store2 (Nat.le_refl _) _ _)⟩
  · obtain ⟨hSa, hSb⟩ := hSj
    have HSA := hid hSa
    have HSB := hid hSb
    have PV := hid (P1.out.keep HKP.out)
    have y0 := cell_one1 HWG.out
    have y1 := PV.out.c0
    have y2 := PV.out.c1
    have y3 := PV.out.f0
    have y4 := PV.out.f1
    have z0 := Tl.c0 HTL.out
    have z1 := Tl.c1 HTL.out
    have z2 := Tl.f (i := 0) HTL.out
    have z3 := Tl.f (i := 1) HTL.out
    clear hSa hSb
    gi_wp2
    go_wp2
    have LW := live_two HLV.out PV.out (.int .i64 a) (.int .i64 b)
    refine leaves_marks Ds _ LW ?_
    have hbx : Bx (shut _ Ds) w.heap.size a b := shut_cells Ds _ LW (PV.out.set a b)
    refine ⟨spE (a, b, 0), by simp [results, Tryd.results25, go_sem, hbx.c0, hbx.c1], by rw [HSA.out, HSB.out], kp_shut Ds _ LW (w := w) (by have := K1.out.size; have := HPT.out; omega) ((K1.out.trans HKP.out).store2 (Nat.le_refl _) _ _)⟩
end Go.Proofs.YtojdahgoapknjaaDoor
