/- The map's keys, sorted. -/
import Derived.Test.YtgefmnnkpffpcaaGreatDoorHpiece
import Derived.Laws.AppendOwn
namespace Go.Proofs.YtgefmnnkpffpcaaGreatDoor
open Go.RowKit Go.Maps Go.Sort Go.Shelf

theorem Kp.of_below {w w' : World} (h : Below w.heap.size w w') : Kp w w' [] := ⟨h.os, h.tape, h.output, h.size, fun k hk _ => h.block k hk⟩

theorem keys_any (b : Nat) (W : World) : Calls Tryz.prog 118 #[.map (some b)] W fun e w' => e = .returned (.func (.func 125) #[] #[.pointer (some ⟨W.heap.size, 0, none⟩)]) ∧ w' = W.alloc (.cells #[.map (some b)] 65) :=
  (callsIn_wide (n := 5)).1 (AnyZI.keys_in Tryz.laysKeys Fence.wide 5 trivial rfl (some b) W)

theorem sorts_wide (m : Nat) : AnyZI.SortsIn Tryz.prog Tryz.laysSorted_ren Fence.wide m :=
  ⟨fun blk off cap ss W hH hblk hsz => callsIn_wide.2 (AnyM.slices_Sort_int Tryz.laysSort blk off cap ss W hH hblk hsz),
   fun p cap W => callsIn_wide.2 (AnyM.slices_Sort_int_none Tryz.laysSort p cap W)⟩

set_option maxHeartbeats 1000000 in
theorem sorted_any (b : Nat) (P : Pcs) (w : World) (hm : Mp w b P) (hl : P.length ≤ 65536) :
    Calls Tryz.prog 117 #[.func (.func 125) #[] #[.pointer (some ⟨w.heap.size, 0, none⟩)]] (w.alloc (.cells #[.map (some b)] 65)) fun e w' => ∃ v, e = .returned v ∧
      w'.ownsRow (w.heap.size + 1) 3 1 v P.length (P.map fun p => .int .i64 p.1) ∧ Kp (w.alloc (.cells #[.map (some b)] 65)) w' [] := by
  have hbl := World.ownsMap.lt hm
  have hmax : Maps.size (dat P) ≤ maxLen := by rw [dat_size]; unfold maxLen; omega
  have hbytes : Maps.size (dat P) * 8 ≤ 140737488355328 := by rw [dat_size]; omega
  have hseq : SeqGives Fence.wide 2 Tryz.prog 125 #[.pointer (some ⟨w.heap.size, 0, none⟩)] encZ (fun ss => ss.Perm (intKeys (dat P))) (Maps.size (dat P)) (w.alloc (.cells #[.map (some b)] 65)) :=
    AnyZI.keys_gives (ρ := Tryz.laysKeys_ren) { Tryz.laysKeys with } Fence.wide _ trivial rfl (by omega) w.heap.size b P.length (dat P) _ (by simp) (by simp) (by
      obtain ⟨es, clock, hb, Ft, hs, hD⟩ := hm
      exact ⟨es, clock, (Below.heap_alloc _ _ b hbl).trans hb, Ft, hs, hD⟩)
  have cS := AnyZI.sorted_in Tryz.laysSorted Fence.wide 5 trivial trivial trivial trivial rfl (by omega) (sorts_wide _) (enters_of Tryz.func124 (by kernel_rfl) rfl) 125 #[.pointer (some ⟨w.heap.size, 0, none⟩)] trivial (enters_of Tryz.func125 (by kernel_rfl) rfl) _ _ hmax hbytes _ hseq
  change CallsIn _ _ Tryz.prog 117 _ _ _ at cS
  refine (callsIn_wide.1 cS).mono ?_
  rintro e w' ⟨v, ss, rfl, hS, hrow, -, hb⟩
  have e1 : ss.length = P.length := by rw [hS.length_eq, dat_keys]; simp
  have e2 : ss.mergeSort leI = P.map (·.1) := by rw [mergeSort_of_perm_i hS, dat_keys]; exact hm.rises.sorted
  refine ⟨v, rfl, ?_, Kp.of_below hb⟩
  have hrow' : w'.ownsRow (w.alloc (.cells #[.map (some b)] 65)).heap.size 3 1 v ss.length ((ss.mergeSort leI).map encZ) := hrow
  rw [e1, e2] at hrow'
  simpa [Function.comp_def] using hrow'
end Go.Proofs.YtgefmnnkpffpcaaGreatDoor

/- blocks: the pieces' ones, and the free ones between them. -/
namespace Go.Proofs.YtgefmnnkpffpcaaGreatDoor
open Go.RowKit Go.Maps

/-- A block: where, how great, is it free? -/
abbrev Bk := Int × Int × Bool
def bcells (l : List Bk) : List Value := l.flatMap fun b => [.int .i64 b.1, .int .i64 b.2.1, .bool b.2.2]
theorem bcells_append (l r : List Bk) : bcells (l ++ r) = bcells l ++ bcells r := by simp [bcells]
theorem bcells_one (b : Bk) : bcells [b] = [.int .i64 b.1, .int .i64 b.2.1, .bool b.2.2] := rfl
theorem bcells_length (l : List Bk) : (bcells l).length = l.length * 3 := by
  induction l with
  | nil => rfl
  | cons b r ih => rw [show b :: r = [b] ++ r from rfl, bcells_append, List.length_append, ih, bcells_one]; simp; omega

theorem Tryz.info44 : (Tryz.prog.info? 44).map (fun i => (i.zero, i.size, i.bytes)) = some (some (.agg #[.int .i64 0, .int .i64 0, .bool false]), 3, 24) := by kernel_rfl

/-- blocks' two variables: the gap, and all so far. -/
structure Fl (w : World) (gp ap base : Nat) (gap : Int) (l : List Bk) : Prop where
  g : w.heap[gp]? = some (.cells #[.int .i64 gap] 3 (0, 0))
  a : ∃ v, w.heap[ap]? = some (.cells #[v] 38 (0, 0)) ∧ w.ownsRow base 44 3 v l.length (bcells l)
  hb : gp < base ∧ ap < base ∧ gp ≠ ap
  hw : base ≤ w.heap.size

theorem cell_one {w : World} {b : Nat} {v : Value} {t : TypeId} (h : w.heap[b]? = some (.cells #[v] t (0, 0))) : w.cell? ⟨b, 0, none⟩ = some v := by simp [World.cell?, h]
theorem free_one {w : World} {b : Nat} {v : Value} {t : TypeId} (h : w.heap[b]? = some (.cells #[v] t (0, 0))) : w.frozen? ⟨b, 0, none⟩ = false := by simp [World.frozen?, h]
theorem set_one {w : World} {b : Nat} {v u : Value} {t : TypeId} (h : w.heap[b]? = some (.cells #[v] t (0, 0))) : (w.setCell ⟨b, 0, none⟩ u).heap[b]? = some (.cells #[u] t (0, 0)) := by
  rw [heap_setCell_same w b 0 _ t u h]; rfl
/-- What fill adds. -/
def filled (gap e : Int) (l : List Bk) : List Bk := if gap < e then l ++ [(gap, e - gap, true)] else l

/-- What is kept while blocks goes on: all below base but the variable of all. -/
structure Fr (w w' : World) (base ap : Nat) : Prop where
  os : w'.os = w.os
  tape : w'.tape = w.tape
  output : w'.output = w.output
  size : w.heap.size ≤ w'.heap.size
  block : ∀ k, k < base → k ≠ ap → w'.heap[k]? = w.heap[k]?
theorem Fr.refl (w : World) (base ap : Nat) : Fr w w base ap := ⟨rfl, rfl, rfl, Nat.le_refl _, fun _ _ _ => rfl⟩
theorem Fr.trans {w w1 w2 : World} {base ap : Nat} (h : Fr w w1 base ap) (h' : Fr w1 w2 base ap) : Fr w w2 base ap :=
  ⟨h'.os.trans h.os, h'.tape.trans h.tape, h'.output.trans h.output, Nat.le_trans h.size h'.size, fun k hk hn => (h'.block k hk hn).trans (h.block k hk hn)⟩
theorem Fr.of_kp {w w' : World} {base ap : Nat} {rows : List Nat} (h : Kp w w' rows) (hb : base ≤ w.heap.size) (hr : ∀ k ∈ rows, base ≤ k ∨ k = ap) : Fr w w' base ap :=
  ⟨h.os, h.tape, h.output, h.size, fun k hk hn => h.block k (by omega) (fun hm => by have := hr k hm; omega)⟩
theorem Fr.of_grown {w w' : World} {base ap : Nat} {row : Option Nat} (h : w.grownBy w' row) (hb : base ≤ w.heap.size) (hr : ∀ k, row = some k → base ≤ k) : Fr w w' base ap :=
  ⟨h.os, h.tape, h.output, h.size, fun k hk _ => h.block k (by omega) (fun e => by have := hr k e.symm; omega)⟩

theorem cell_tri {w : World} {b : Nat} {x y z : Value} {t : TypeId} (h : w.heap[b]? = some (.cells #[x, y, z] t (0, 0))) : w.cell? ⟨b, 0, none⟩ = some x ∧ w.cell? ⟨b, 1, none⟩ = some y ∧ w.cell? ⟨b, 2, none⟩ = some z := by
  simp [World.cell?, h]
theorem cell3_new {w : World} {x y z : Value} {t : TypeId} : ∀ j u, [x, y, z][j]? = some u → (w.alloc (.cells #[x, y, z] t)).cell? ((⟨w.heap.size, 0, none⟩ : Addr).add j) = some u := by
  intro j u hu
  rw [Addr.add_lit, Nat.zero_add]
  have hh := cell_tri (heap_alloc_new w (.cells #[x, y, z] t))
  match j, hu with
  | 0, hu => simp at hu; rw [hh.1, hu]
  | 1, hu => simp at hu; rw [hh.2.1, hu]
  | 2, hu => simp at hu; rw [hh.2.2, hu]
  | j + 3, hu => simp at hu
theorem grown_set (w : World) (b : Nat) (v : Value) : w.grownBy (w.setCell ⟨b, 0, none⟩ v) (some b) := ⟨rfl, rfl, rfl, by simp, fun k _ hne => Below.heap_setCell _ _ _ _ (fun e => hne (by rw [e]))⟩
theorem bk_one (a z : Int) (f : Bool) : ∀ u ∈ [Value.int .i64 a, .int .i64 z, .bool f], u.oneCell' = true := by
  intro u hu
  simp at hu
  rcases hu with rfl | rfl | rfl <;> rfl
theorem own_ge {w : World} {base e s n : Nat} {v : Value} {xs : List Value} (h : w.ownsRow base e s v n xs) : ∀ k, v.ownBlock = some k → base ≤ k ∧ k < w.heap.size := by
  rcases h.2 with ⟨rfl, rfl⟩ | ⟨g, cap, cur, rfl, hb, hg, -⟩
  · intro k hk; simp [Value.ownBlock] at hk
  · intro k hk; simp [Value.ownBlock] at hk; subst hk; exact ⟨hb, lt_of_block hg⟩

/-- Behind an append to all. -/
theorem Fl.push {w w1 : World} {gp ap base : Nat} {gap : Int} {l : List Bk} {v v' : Value} {b : Bk} {o : Obj} (h : Fl w gp ap base gap l) (hv : w.heap[ap]? = some (.cells #[v] 38 (0, 0))) (hown : w.ownsRow base 44 3 v l.length (bcells l))
    (hown' : w1.ownsRow base 44 3 v' (l.length + 1) (bcells l ++ [.int .i64 b.1, .int .i64 b.2.1, .bool b.2.2])) (hg : (w.alloc o).grownBy w1 v.ownBlock) :
    Fl (w1.setCell ⟨ap, 0, none⟩ v') gp ap base gap (l ++ [b]) ∧ Fr w (w1.setCell ⟨ap, 0, none⟩ v') base ap ∧ w1.heap[ap]? = some (.cells #[v] 38 (0, 0)) := by
  have hb := h.hb
  have hw := h.hw
  have hge := own_ge hown
  have hne : ∀ k, k < base → some k ≠ v.ownBlock := fun k hk e => by have := (hge k e.symm).1; omega
  have ka : ∀ k, k < base → w1.heap[k]? = w.heap[k]? := fun k hk => (hg.block k (by simp; omega) (hne k hk)).trans (Below.heap_alloc w o k (by omega))
  have hs1 : w.heap.size ≤ w1.heap.size := by have := hg.size; simp at this; omega
  have hap := (ka ap hb.2.1).trans hv
  refine ⟨⟨?_, ⟨v', set_one hap, ?_⟩, hb, by simp; omega⟩, ⟨hg.os, hg.tape, hg.output, by simp; omega, fun k hk hn => ?_⟩, hap⟩
  · rw [Below.heap_setCell _ _ _ _ (by simp; omega), ka gp hb.1]; exact h.g
  · have e1 : (l ++ [b]).length = l.length + 1 := by simp
    rw [e1, bcells_append, bcells_one]
    exact hown'.kept (grown_set w1 ap v') (by
      right; intro e; have := (own_ge hown' ap e).1; omega)
  · rw [Below.heap_setCell _ _ _ _ (by simp; omega), ka k hk]

set_option maxRecDepth 100000 in
set_option maxHeartbeats 1000000 in
theorem fill_any (w : World) (gp ap base : Nat) (gap e : Int) (l : List Bk) (h : Fl w gp ap base gap l) (hl : l.length ≤ 1000000) (hg0 : 0 ≤ gap) (hg1 : gap < 1000000000) (he0 : -1000 ≤ e) (he1 : e < 1000000000) :
    Calls Tryz.prog 116 #[.int .i64 e, .pointer (some ⟨gp, 0, none⟩), .pointer (some ⟨ap, 0, none⟩)] w fun ed w' => ed = .returned (.tuple #[]) ∧ Fl w' gp ap base gap (filled gap e l) ∧ Fr w w' base ap := by
  obtain ⟨i0, hi, hz0, hz1, hz2⟩ := info_parts Tryz.info44
  obtain ⟨v, hv, hown⟩ := h.a
  have q0 := cell_one h.g
  have H := hid h
  have HV := hid hv
  have HO := hid hown
  have hbb := h.hb
  have hww := h.hw
  by_cases hge : gap < e
  · have E := hid (show filled gap e l = l ++ [(gap, e - gap, true)] by unfold filled; rw [if_pos hge])
    have q1 := cell_one hv
    have f1 := free_one hv
    clear h hv hown
    obtain ⟨ao, cp, rfl⟩ := owns_shape HO.out
    have hlt : ap < w.heap.size := by omega
    go_enter Tryz.func116, Tryz.ntmps116
    go_wp2_with (at_builtin; refine wpList_append_own _ rfl _ _ 38 rfl base 44 i0 (.agg #[.int .i64 0, .int .i64 0, .bool false]) 3 24 Tryz.underlying38 hi hz0 hz1 hz2 rfl (by decide) _ _ _ rfl (HO.out.alloc _) ⟨w.heap.size, 0, none⟩ 1 1 [.int .i64 gap, .int .i64 (e - gap), .bool true] rfl rfl cell3_new (bk_one _ _ _) (by unfold maxLen; omega) (by omega) (by simp; omega) ?_; intro v' w1 hown' hg hnil; obtain ⟨X1, X2, X3⟩ := H.out.push (b := (gap, e - gap, true)) HV.out HO.out hown' hg; have Y1 := hid X1; have Y2 := hid X2; have q2 := cell_one X3; have f2 := free_one X3; obtain ⟨ao', cp', rfl⟩ := owns_shape hown'; clear X1 X2 X3 hnil hown' hg q0 q1 f1)
    refine bodyPost_end (results_none rfl _ _ _) rfl ?_
    rw [E.out]
    exact ⟨rfl, Y1.out, Y2.out⟩
  · have E := hid (show filled gap e l = l by unfold filled; rw [if_neg hge])
    clear h hv hown
    go_enter Tryz.func116, Tryz.ntmps116
    go_wp2_with fail
    refine bodyPost_end (results_none rfl _ _ _) rfl ?_
    rw [E.out]
    exact ⟨rfl, H.out, Fr.refl _ _ _⟩
end Go.Proofs.YtgefmnnkpffpcaaGreatDoor
