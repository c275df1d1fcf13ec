/- blocks: the pieces' ones, and the free ones between them. -/
import Derived.Test.YtgefmnnkpffpcaaGreatDoorHpieceJ
import Derived.Laws.AppendOwn
namespace Go.Proofs.YtgefmnnkpffpcaaGreatDoor
open Go.RowKit Go.Maps

/-- A block: where, how great, is it free? -/
abbrev Bk := Int × Int × Bool
def bcells (l : List Bk) : List Value := l.flatMap fun b => [.int .i64 b.1, .int .i64 b.2.1, .bool b.2.2]
theorem bcells_append (l r : List Bk) : bcells (l ++ r) = bcells l ++ bcells r := by simp [bcells]
theorem bcells_one (b : Bk) : bcells [b] = [.int .i64 b.1, .int .i64 b.2.1, .bool b.2.2] := rfl
theorem bcells_length (l : List Bk) : (bcells l).length = l.length * 3 := by
  induction l with
  | nil => rfl
  | cons b r ih => rw [show b :: r = [b] ++ r from rfl, bcells_append, List.length_append, ih, bcells_one]; simp; omega

theorem Tryz.info44 : (Tryz.prog.info? 44).map (fun i => (i.zero, i.size, i.bytes)) = some (some (.agg #[.int .i64 0, .int .i64 0, .bool false]), 3, 24) := by kernel_rfl

/-- blocks' two variables: the gap, and all so far. -/
structure Fl (w : World) (gp ap base : Nat) (gap : Int) (l : List Bk) : Prop where
  g : w.heap[gp]? = some (.cells #[.int .i64 gap] 3 (0, 0))
  a : ∃ v, w.heap[ap]? = some (.cells #[v] 38 (0, 0)) ∧ w.ownsRow base 44 3 v l.length (bcells l)
  hb : gp < base ∧ ap < base ∧ gp ≠ ap
  hw : base ≤ w.heap.size

theorem cell_one {w : World} {b : Nat} {v : Value} {t : TypeId} (h : w.heap[b]? = some (.cells #[v] t (0, 0))) : w.cell? ⟨b, 0, none⟩ = some v := by simp [World.cell?, h]
theorem free_one {w : World} {b : Nat} {v : Value} {t : TypeId} (h : w.heap[b]? = some (.cells #[v] t (0, 0))) : w.frozen? ⟨b, 0, none⟩ = false := by simp [World.frozen?, h]
theorem set_one {w : World} {b : Nat} {v u : Value} {t : TypeId} (h : w.heap[b]? = some (.cells #[v] t (0, 0))) : (w.setCell ⟨b, 0, none⟩ u).heap[b]? = some (.cells #[u] t (0, 0)) := by
  rw [heap_setCell_same w b 0 _ t u h]; rfl
/-- What fill adds. -/
def filled (gap e : Int) (l : List Bk) : List Bk := if gap < e then l ++ [(gap, e - gap, true)] else l

/-- What is kept while blocks goes on: all below base but the variable of all. -/
structure Fr (w w' : World) (base ap : Nat) : Prop where
  os : w'.os = w.os
  tape : w'.tape = w.tape
  output : w'.output = w.output
  size : w.heap.size ≤ w'.heap.size
  block : ∀ k, k < base → k ≠ ap → w'.heap[k]? = w.heap[k]?
theorem Fr.refl (w : World) (base ap : Nat) : Fr w w base ap := ⟨rfl, rfl, rfl, Nat.le_refl _, fun _ _ _ => rfl⟩
theorem Fr.trans {w w1 w2 : World} {base ap : Nat} (h : Fr w w1 base ap) (h' : Fr w1 w2 base ap) : Fr w w2 base ap :=
  ⟨h'.os.trans h.os, h'.tape.trans h.tape, h'.output.trans h.output, Nat.le_trans h.size h'.size, fun k hk hn => (h'.block k hk hn).trans (h.block k hk hn)⟩
theorem Fr.of_kp {w w' : World} {base ap : Nat} {rows : List Nat} (h : Kp w w' rows) (hb : base ≤ w.heap.size) (hr : ∀ k ∈ rows, base ≤ k ∨ k = ap) : Fr w w' base ap :=
  ⟨h.os, h.tape, h.output, h.size, fun k hk hn => h.block k (by omega) (fun hm => by have := hr k hm; omega)⟩
theorem Fr.of_grown {w w' : World} {base ap : Nat} {row : Option Nat} (h : w.grownBy w' row) (hb : base ≤ w.heap.size) (hr : ∀ k, row = some k → base ≤ k) : Fr w w' base ap :=
  ⟨h.os, h.tape, h.output, h.size, fun k hk _ => h.block k (by omega) (fun e => by have := hr k e.symm; omega)⟩

theorem cell_tri {w : World} {b : Nat} {x y z : Value} {t : TypeId} (h : w.heap[b]? = some (.cells #[x, y, z] t (0, 0))) : w.cell? ⟨b, 0, none⟩ = some x ∧ w.cell? ⟨b, 1, none⟩ = some y ∧ w.cell? ⟨b, 2, none⟩ = some z := by
  simp [World.cell?, h]
theorem cell3_new {w : World} {x y z : Value} {t : TypeId} : ∀ j u, [x, y, z][j]? = some u → (w.alloc (.cells #[x, y, z] t)).cell? ((⟨w.heap.size, 0, none⟩ : Addr).add j) = some u := by
  intro j u hu
  rw [Addr.add_lit, Nat.zero_add]
  have hh := cell_tri (heap_alloc_new w (.cells #[x, y, z] t))
  match j, hu with
  | 0, hu => simp at hu; rw [hh.1, hu]
  | 1, hu => simp at hu; rw [hh.2.1, hu]
  | 2, hu => simp at hu; rw [hh.2.2, hu]
  | j + 3, hu => simp at hu
theorem grown_set (w : World) (b : Nat) (v : Value) : w.grownBy (w.setCell ⟨b, 0, none⟩ v) (some b) := ⟨rfl, rfl, rfl, by simp, fun k _ hne => Below.heap_setCell _ _ _ _ (fun e => hne (by rw [e]))⟩
theorem bk_one (a z : Int) (f : Bool) : ∀ u ∈ [Value.int .i64 a, .int .i64 z, .bool f], u.oneCell' = true := by
  intro u hu
  simp at hu
  rcases hu with rfl | rfl | rfl <;> rfl
theorem own_ge {w : World} {base e s n : Nat} {v : Value} {xs : List Value} (h : w.ownsRow base e s v n xs) : ∀ k, v.ownBlock = some k → base ≤ k ∧ k < w.heap.size := by
  rcases h.2 with ⟨rfl, rfl⟩ | ⟨g, cap, cur, rfl, hb, hg, -⟩
  · intro k hk; simp [Value.ownBlock] at hk
  · intro k hk; simp [Value.ownBlock] at hk; subst hk; exact ⟨hb, lt_of_block hg⟩

/-- Behind an append to all. -/
theorem Fl.push {w w1 : World} {gp ap base : Nat} {gap : Int} {l : List Bk} {v v' : Value} {b : Bk} {o : Obj} (h : Fl w gp ap base gap l) (hv : w.heap[ap]? = some (.cells #[v] 38 (0, 0))) (hown : w.ownsRow base 44 3 v l.length (bcells l))
    (hown' : w1.ownsRow base 44 3 v' (l.length + 1) (bcells l ++ [.int .i64 b.1, .int .i64 b.2.1, .bool b.2.2])) (hg : (w.alloc o).grownBy w1 v.ownBlock) :
    Fl (w1.setCell ⟨ap, 0, none⟩ v') gp ap base gap (l ++ [b]) ∧ Fr w (w1.setCell ⟨ap, 0, none⟩ v') base ap ∧ w1.heap[ap]? = some (.cells #[v] 38 (0, 0)) := by
  have hb := h.hb
  have hw := h.hw
  have hge := own_ge hown
  have hne : ∀ k, k < base → some k ≠ v.ownBlock := fun k hk e => by have := (hge k e.symm).1; omega
  have ka : ∀ k, k < base → w1.heap[k]? = w.heap[k]? := fun k hk => (hg.block k (by simp; omega) (hne k hk)).trans (Below.heap_alloc w o k (by omega))
  have hs1 : w.heap.size ≤ w1.heap.size := by have := hg.size; simp at this; omega
  have hap := (ka ap hb.2.1).trans hv
  refine ⟨⟨?_, ⟨v', set_one hap, ?_⟩, hb, by simp; omega⟩, ⟨hg.os, hg.tape, hg.output, by simp; omega, fun k hk hn => ?_⟩, hap⟩
  · rw [Below.heap_setCell _ _ _ _ (by simp; omega), ka gp hb.1]; exact h.g
  · have e1 : (l ++ [b]).length = l.length + 1 := by simp
    rw [e1, bcells_append, bcells_one]
    exact hown'.kept (grown_set w1 ap v') (by
      right; intro e; have := (own_ge hown' ap e).1; omega)
  · rw [Below.heap_setCell _ _ _ _ (by simp; omega), ka k hk]

set_option maxRecDepth 100000 in
set_option maxHeartbeats 1000000 in
theorem fill_any (w : World) (gp ap base : Nat) (gap e : Int) (l : List Bk) (h : Fl w gp ap base gap l) (hl : l.length ≤ 1000000) (hg0 : 0 ≤ gap) (hg1 : gap < 1000000000) (he0 : -1000 ≤ e) (he1 : e < 1000000000) :
    Calls Tryz.prog 116 #[.int .i64 e, .pointer (some ⟨gp, 0, none⟩), .pointer (some ⟨ap, 0, none⟩)] w fun ed w' => ed = .returned (.tuple #[]) ∧ Fl w' gp ap base gap (filled gap e l) ∧ Fr w w' base ap := by
  obtain ⟨i0, hi, hz0, hz1, hz2⟩ := info_parts Tryz.info44
  obtain ⟨v, hv, hown⟩ := h.a
  have q0 := cell_one h.g
  have H := hid h
  have HV := hid hv
  have HO := hid hown
  have hbb := h.hb
  have hww := h.hw
  by_cases hge : gap < e
  · have E := hid (show filled gap e l = l ++ [(gap, e - gap, true)] by unfold filled; rw [if_pos hge])
    have q1 := cell_one hv
    have f1 := free_one hv
    clear h hv hown
    obtain ⟨ao, cp, rfl⟩ := owns_shape HO.out
    have hlt : ap < w.heap.size := by omega
    go_enter Tryz.func116, Tryz.ntmps116
    go_wp2_with (at_builtin; refine wpList_append_own _ rfl _ _ 38 rfl base 44 i0 (.agg #[.int .i64 0, .int .i64 0, .bool false]) 3 24 Tryz.underlying38 hi hz0 hz1 hz2 rfl (by decide) _ _ _ rfl (HO.out.alloc _) ⟨w.heap.size, 0, none⟩ 1 1 [.int .i64 gap, .int .i64 (e - gap), .bool true] rfl rfl cell3_new (bk_one _ _ _) (by unfold maxLen; omega) (by omega) (by simp; omega) ?_; intro v' w1 hown' hg hnil; obtain ⟨X1, X2, X3⟩ := H.out.push (b := (gap, e - gap, true)) HV.out HO.out hown' hg; have Y1 := hid X1; have Y2 := hid X2; have q2 := cell_one X3; have f2 := free_one X3; obtain ⟨ao', cp', rfl⟩ := owns_shape hown'; clear X1 X2 X3 hnil hown' hg q0 q1 f1)
    refine bodyPost_end (results_none rfl _ _ _) rfl ?_
    rw [E.out]
    exact ⟨rfl, Y1.out, Y2.out⟩
  · have E := hid (show filled gap e l = l by unfold filled; rw [if_neg hge])
    clear h hv hown
    go_enter Tryz.func116, Tryz.ntmps116
    go_wp2_with fail
    refine bodyPost_end (results_none rfl _ _ _) rfl ?_
    rw [E.out]
    exact ⟨rfl, H.out, Fr.refl _ _ _⟩
end Go.Proofs.YtgefmnnkpffpcaaGreatDoor

/- New: a heap over an arena. -/
namespace Go.Proofs.YtgefmnnkpffpcaaGreatDoor
open Go.RowKit Go.Maps

/-- The words of a heap that is new. -/
def fresh0 (n : Nat) : Mem := putIn n (fun _ => 0) 112 (n - 112)
theorem over_zero (f : Nat → Int) (n i : Nat) (h : i < n) : over f 0 (List.replicate n 0) i = 0 := by
  unfold over
  rw [if_pos ⟨Nat.zero_le _, by simpa using h⟩]
  simp [h]
theorem byt_zero (n : Nat) : Byt (List.replicate n 0) := by
  intro x hx
  have := List.eq_of_mem_replicate hx
  omega

set_option maxRecDepth 100000 in
set_option maxHeartbeats 1000000 in
theorem hnew_ok (w : World) (rb mb n : Nat) (f : Nat → Int) (c : Int) (h : Ar w rb mb n f c) (hn : Good n) (hc0 : 0 ≤ c) (hc : c < 1000000) (ht : Tb w) (hz : rb ≠ 0 ∧ mb ≠ 0) :
    Calls Tryz.prog 25 #[.pointer (some ⟨rb, 0, none⟩)] w fun e w' => ∃ hb pb, e = .returned (.tuple #[.pointer (some ⟨hb, 0, none⟩), .int .i64 0]) ∧ Went w w' hb rb mb pb n (fresh0 n) [] c 10 [rb, mb] ∧ w.heap.size ≤ hb ∧ w.heap.size ≤ pb := by
  obtain ⟨i0, hi, hz0, hz1, hz2⟩ := info_parts Tryz.info5
  have hmm := @run_makeMap Tryz.prog
  have H := hid h
  have HT := hid ht
  unfold Good at hn
  have N8 := hid hn.2.2
  have hn0 : 256 ≤ n ∧ n ≤ 65536 := by omega
  have hnz : ((n : Int) == 0) = false := by rw [beq_eq_false_iff_ne]; omega
  have hlt := H.out.lt
  clear h ht hn
  go_enter Tryz.func25, Tryz.ntmps25
  go_wp2_with fail
  refine (size_ok w rb mb n f c H.out).mono ?_
  rintro e w' ⟨rfl, hE⟩
  rw [hE]
  clear hE
  go_wp2_with (refine wpList_make_full _ rfl _ _ 40 rfl w.heap.size 5 i0 (.int .u8 0) 1 Tryz.underlying40 hi hz0 hz1 .i64 .i64 n n n rfl rfl rfl rfl (by rw [hz2]; omega) (by unfold maxLen; omega) (Nat.le_refl _) ?_; intro w1 hown hg)
  have BS := hid (show Bs w1 (.slice (some ⟨w.heap.size, 0, none⟩) n n) (List.replicate n 0) by
    have e : (madeCells (Value.int .u8 0).cells (n * 1)).toList = ub (List.replicate n 0) := by
      rw [Nat.mul_one]; exact (toList_madeCells_one _ _).trans (by simp [ub])
    rw [e] at hown
    refine Bs.of_owns (base := w.heap.size) ?_
    rw [List.length_replicate]
    exact hown)
  have K1 := hid (Kp.grown hg (rows := []))
  clear hown hg
  refine (write_ok w1 rb mb n 0 f c _ (List.replicate n 0) (H.out.keep K1.out (by simp) (by simp)) (by omega) BS.out (byt_zero n) (by simp)).mono ?_
  rintro e w2 ⟨rfl, hA2, hK2⟩
  have hs2 : w.heap.size ≤ w2.heap.size := Nat.le_trans K1.out.size hK2.size
  have K2 := hid (K1.out.nil.trans (hK2.mono (r2 := [rb, mb]) (by simp)))
  have A2 := hid (show Aw w2 rb mb n (fun _ => 0) c from ⟨_, hA2, fun o ho hon => by
    unfold wordAt
    rw [over_zero f n o (by omega), over_zero f n _ (by omega), over_zero f n _ (by omega), over_zero f n _ (by omega)]
    rfl⟩)
  have T2 := hid (HT.out.keep K2.out (by simp; omega))
  clear hA2 hK2
  have KM := hid ((Kp.alloc w2 (.map #[] 0) []).trans (Kp.alloc _ (.cells #[.pointer (some ⟨rb, 0, none⟩), .map (some w2.heap.size)] 67) []))
  have H3 := hid (show Hp ((w2.alloc (.map #[] 0)).alloc (.cells #[.pointer (some ⟨rb, 0, none⟩), .map (some w2.heap.size)] 67)) (w2.heap.size + 1) rb mb w2.heap.size n (fun _ => 0) c [] from
    ⟨by
      have := heap_alloc_new (w2.alloc (.map #[] 0)) (.cells #[.pointer (some ⟨rb, 0, none⟩), .map (some w2.heap.size)] 67)
      rw [show (w2.alloc (.map #[] 0)).heap.size = w2.heap.size + 1 by simp] at this
      exact this,
     A2.out.keep KM.out (by simp) (by simp),
     by
      have h1 := World.ownsMap_made (H := Unit) w2 Tryz.prog 3 (plainElem Tryz.prog 3)
      exact (Mp.of_owns (P := []) h1).keep (Kp.alloc _ _ []) (by simp),
     by omega, hc0, T2.out.keep KM.out (by simp), by have := T2.out.lt; omega⟩)
  go_wp2_with fail
  refine (putIn_any _ _ rb mb _ n (fun _ => 0) c [] 112 (n - 112) H3.out (by omega) (by decide) (by decide) (by omega) (by omega) (by have := N8.out; omega)).mono ?_
  rintro e w4 ⟨rfl, c4, hc4, hc4', hH4, hK4⟩
  have W4 := hid (show Went w w4 (w2.heap.size + 1) rb mb w2.heap.size n (fresh0 n) [] c 10 [rb, mb] from ⟨c4, by omega, by omega, hH4, (K2.out.trans KM.out.nil).trans hK4⟩)
  clear hH4 hK4
  go_wp2
  go_ret2
  exact ⟨_, _, rfl, W4.out, by omega, by omega⟩

set_option maxRecDepth 100000 in
theorem made_no (w : World) (n : Int) (h : ¬ Good n) : Calls Tryz.prog 7 #[.int .i64 n] w fun e w' => e = .returned (.pointer none) ∧ w' = w := by
  go_enter Tryz.func7, Tryz.ntmps7
  go_wp2_with fail
  refine (new_no w n h).mono ?_
  rintro e w1 ⟨rfl, rfl⟩
  go_wp2_with (go_at_call 13; go_in)
  go_ret
  exact ⟨rfl, rfl⟩
set_option maxRecDepth 100000 in
theorem made_ok (w : World) (n : Nat) (h : Good n) (ht : Tb w) : Calls Tryz.prog 7 #[.int .i64 n] w fun e w' => ∃ hb rb mb pb, e = .returned (.pointer (some ⟨hb, 0, none⟩)) ∧ Went w w' hb rb mb pb n (fresh0 n) [] 0 10 [] ∧ w.heap.size ≤ hb ∧ w.heap.size ≤ rb ∧ w.heap.size ≤ mb ∧ w.heap.size ≤ pb := by
  have HT := hid ht
  have hlt := ht.lt
  have G := hid h
  clear ht h
  go_enter Tryz.func7, Tryz.ntmps7
  go_wp2_with fail
  refine (new_ok w n G.out).mono ?_
  rintro e w1 ⟨rb, mb, rfl, hA1, hrb, hmb, hK1⟩
  have A1 := hid hA1
  have K1 := hid hK1
  clear hA1 hK1
  go_wp2_with fail
  go_in
  go_wp2_with fail
  refine (hnew_ok w1 rb mb n _ 0 A1.out G.out (by decide) (by decide) (HT.out.keep K1.out (by simp)) (by omega)).mono ?_
  rintro e w2 ⟨hb, pb, rfl, hW2, hhb, hpb⟩
  have W2 := hid hW2
  have hs1 := K1.out.size
  clear hW2
  go_wp2_with (go_at_call 13; go_in)
  go_ret
  obtain ⟨c', x1, x2, x3, x4⟩ := W2.out
  exact ⟨hb, rb, mb, pb, rfl, ⟨c', x1, x2, x3, K1.out.past x4 (by intro k hk hlt; simp at hk; omega)⟩, by omega, hrb, hmb, by omega⟩
end Go.Proofs.YtgefmnnkpffpcaaGreatDoor
