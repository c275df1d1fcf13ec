/- Pieces as a plain list: what a map of ints reads as. No Go is walked here. -/
import Derived.Maps.OwnSet
import Derived.Lib.SlKeysI
import Derived.Maps.Ext
import Derived.Test.YtgefmnnkpffpcaaGreatDoorRows
import Derived.WalkKit
import Derived.WalkSpells
import Derived.Laws.BytesArg
import Derived.Laws.CopyOwn
namespace Go.Proofs.YtgefmnnkpffpcaaGreatDoor
open Go.RowKit Go.Maps

/-- Offsets, rising, each with its block's size. -/
abbrev Pcs := List (Int × Int)
def dat (P : Pcs) : DataW Unit := .map (P.map fun p => (.int .i64 p.1, .lit (.int .i64 p.2)))
def insP (x : Int × Int) : Pcs → Pcs
  | [] => [x]
  | y :: r => if x.1 < y.1 then x :: y :: r else y :: insP x r
def delP (P : Pcs) (k : Int) : Pcs := P.filter fun p => !(p.1 == k)
def putP (P : Pcs) (k v : Int) : Pcs := insP (k, v) (delP P k)
def getP (P : Pcs) (k : Int) : Int := ((P.find? fun p => p.1 == k).map (·.2)).getD 0
def hasP (P : Pcs) (k : Int) : Bool := P.any fun p => p.1 == k

theorem same_int (a b : Int) : (Lit.int .i64 a).sameKey (.int .i64 b) = (a == b) := by
  by_cases h : a = b <;> simp [Lit.sameKey, h]
theorem dat_ins (x : Int × Int) : ∀ P : Pcs, DataW.insert ((.int .i64 x.1, .lit (.int .i64 x.2)) : Lit × DataW Unit) (P.map fun p => (.int .i64 p.1, .lit (.int .i64 p.2))) = (insP x P).map fun p => (.int .i64 p.1, .lit (.int .i64 p.2))
  | [] => rfl
  | y :: r => by
    by_cases h : x.1 < y.1
    · simp [DataW.insert, Lit.before, insP, h]
    · simp [DataW.insert, Lit.before, insP, h]
      exact dat_ins x r
theorem dat_filter (P : Pcs) (k : Int) : (P.map fun p => ((.int .i64 p.1, .lit (.int .i64 p.2)) : Lit × DataW Unit)).filter (fun p => !p.1.sameKey (.int .i64 k)) = (delP P k).map fun p => (.int .i64 p.1, .lit (.int .i64 p.2)) := by
  unfold delP
  rw [List.filter_map]
  congr 1
  apply List.filter_congr
  intro p _
  simp [same_int]
theorem dat_del (P : Pcs) (k : Int) : (dat P).del (.int .i64 k) = dat (delP P k) := by
  simp only [dat, DataW.del, dat_filter]
theorem dat_put (P : Pcs) (k v : Int) : (dat P).put (.int .i64 k) (.lit (.int .i64 v)) = dat (putP P k v) := by
  simp only [dat, DataW.put, dat_filter, putP]
  rw [dat_ins (k, v)]
theorem dat_has (P : Pcs) (k : Int) : Maps.has (dat P) (.int .i64 k) = hasP P k := by
  simp only [dat, has_eq, hasP, List.any_map]
  congr 1
  funext p
  simp [same_int]
theorem dat_at (P : Pcs) (k : Int) : (dat P).atKey (.int .i64 k) (.lit (.int .i64 0)) = .lit (.int .i64 (getP P k)) := by
  simp only [dat, DataW.atKey, getP, List.find?_map]
  have : ((fun p : Lit × DataW Unit => p.1.sameKey (.int .i64 k)) ∘ fun p : Int × Int => (.int .i64 p.1, .lit (.int .i64 p.2))) = fun p => p.1 == k := by
    funext p; simp [same_int]
  rw [this]
  cases P.find? fun p => p.1 == k <;> rfl
theorem dat_size (P : Pcs) : Maps.size (dat P) = P.length := by simp [dat, size_eq]
theorem dat_keys (P : Pcs) : intKeys (dat P) = P.map (·.1) := by simp [dat, intKeys, intOf, Function.comp_def]
theorem dat_nil : (dat [] : DataW Unit) = .map [] := rfl

/-- Keys rise. -/
def Rises (P : Pcs) : Prop := P.Pairwise fun p q => p.1 < q.1

theorem Rises.sorted {P : Pcs} (h : Rises P) : (P.map (·.1)).mergeSort leI = P.map (·.1) := by
  refine List.mergeSort_of_pairwise (List.pairwise_map.2 (h.imp fun {p q} hpq => ?_))
  simp only [leI, decide_eq_true_eq]; omega
theorem rises_del {P : Pcs} (h : Rises P) (k : Int) : Rises (delP P k) := h.filter _
theorem mem_ins {x p : Int × Int} : ∀ {P : Pcs}, p ∈ insP x P ↔ p = x ∨ p ∈ P
  | [] => by simp [insP]
  | y :: r => by
    by_cases h : x.1 < y.1
    · simp [insP, h]
    · simp only [insP, h, if_false, List.mem_cons, mem_ins (P := r)]
      constructor
      · rintro (h | h | h) <;> simp [h]
      · rintro (h | h | h) <;> simp [h]
theorem rises_ins {x : Int × Int} : ∀ {P : Pcs}, Rises P → (∀ p ∈ P, p.1 ≠ x.1) → Rises (insP x P)
  | [], _, _ => by simp [insP, Rises]
  | y :: r, h, hn => by
    have h' := List.pairwise_cons.1 h
    by_cases hx : x.1 < y.1
    · simp only [insP, hx, if_true]
      refine List.pairwise_cons.2 ⟨fun p hp => ?_, h⟩
      rcases List.mem_cons.1 hp with rfl | hp
      · exact hx
      · have := h'.1 p hp; omega
    · simp only [insP, hx, if_false]
      refine List.pairwise_cons.2 ⟨fun p hp => ?_, rises_ins h'.2 fun p hp => hn p (by simp [hp])⟩
      rcases mem_ins.1 hp with rfl | hp
      · have := hn y (by simp); omega
      · exact h'.1 p hp
theorem mem_del {P : Pcs} {k : Int} {p : Int × Int} : p ∈ delP P k ↔ p ∈ P ∧ p.1 ≠ k := by simp [delP]
theorem rises_put {P : Pcs} (h : Rises P) (k v : Int) : Rises (putP P k v) := rises_ins (rises_del h k) fun _ hp => (mem_del.1 hp).2

/-- What ownsMap says of keys: they rise. -/
theorem rises_of_canon {P : Pcs} (h : Canon (dat P)) : Rises P := by
  obtain ⟨es, he, hp, -⟩ := h
  simp only [dat, DataW.map.injEq] at he
  subst he
  exact (List.pairwise_map.1 hp).imp fun {p q} hpq => by simpa [Lit.before] using hpq
end Go.Proofs.YtgefmnnkpffpcaaGreatDoor

/- Plain facts of arenas in memory, of what a call leaves alone: no Go is walked here. -/
namespace Go.Proofs.YtgefmnnkpffpcaaGreatDoor
open Go.RowKit

theorem Tryz.info5 : (Tryz.prog.info? 5).map (fun i => (i.zero, i.size, i.bytes)) = some (some (.int .u8 0), 1, 1) := by kernel_rfl

/-- A fact is kept from the walk. -/
theorem hid {p : Prop} (h : p) : Hid p := h

abbrev ub (l : List Int) : List Value := l.map (Value.int .u8)
theorem ub_one (l : List Int) : ∀ u ∈ ub l, u.oneCell' = true := ints_oneCell .u8 l

/-- What a call leaves alone: every elder block but those listed. -/
structure Kp (w w' : World) (rows : List Nat) : Prop where
  os : w'.os = w.os
  tape : w'.tape = w.tape
  output : w'.output = w.output
  size : w.heap.size ≤ w'.heap.size
  block : ∀ k, k < w.heap.size → k ∉ rows → w'.heap[k]? = w.heap[k]?

theorem Kp.refl (w : World) (rows : List Nat) : Kp w w rows := ⟨rfl, rfl, rfl, Nat.le_refl _, fun _ _ _ => rfl⟩
theorem Kp.trans {w w1 w2 : World} {rows : List Nat} (h : Kp w w1 rows) (h' : Kp w1 w2 rows) : Kp w w2 rows :=
  ⟨h'.os.trans h.os, h'.tape.trans h.tape, h'.output.trans h.output, Nat.le_trans h.size h'.size, fun k hk hr => (h'.block k (Nat.lt_of_lt_of_le hk h.size) hr).trans (h.block k hk hr)⟩
theorem Kp.mono {w w1 : World} {r1 r2 : List Nat} (h : Kp w w1 r1) (hr : ∀ k ∈ r1, k < w.heap.size → k ∈ r2) : Kp w w1 r2 :=
  ⟨h.os, h.tape, h.output, h.size, fun k hk hn => h.block k hk fun hm => hn (hr k hm hk)⟩
theorem Kp.nil {w w1 : World} {r : List Nat} (h : Kp w w1 []) : Kp w w1 r := h.mono (by simp)
/-- Behind one that wrote what was not there at first. -/
theorem Kp.past {w w1 w2 : World} {r1 r2 : List Nat} (h : Kp w w1 r1) (h' : Kp w1 w2 r2) (hr : ∀ k ∈ r2, k < w.heap.size → k ∈ r1) : Kp w w2 r1 :=
  ⟨h'.os.trans h.os, h'.tape.trans h.tape, h'.output.trans h.output, Nat.le_trans h.size h'.size, fun k hk hn => (h'.block k (Nat.lt_of_lt_of_le hk h.size) (fun hm => hn (hr k hm hk))).trans (h.block k hk hn)⟩
theorem Kp.alloc (w : World) (o : Obj) (rows : List Nat) : Kp w (w.alloc o) rows :=
  ⟨rfl, rfl, rfl, by simp, fun k hk _ => Below.heap_alloc _ _ _ hk⟩
theorem Kp.setCell (w : World) (a : Addr) (u : Value) : Kp w (w.setCell a u) [a.block] :=
  ⟨rfl, rfl, rfl, by simp, fun k _ hk => Below.heap_setCell _ _ _ _ (fun e => hk (by simp [e]))⟩
theorem Kp.drew (w : World) (rows : List Nat) : Kp w w.drew rows := ⟨rfl, rfl, rfl, Nat.le_refl _, fun _ _ _ => rfl⟩
theorem Kp.grown {w w1 : World} (h : w.grownBy w1 none) {rows : List Nat} : Kp w w1 rows := ⟨h.os, h.tape, h.output, h.size, fun k hk _ => h.block k hk (by simp)⟩
theorem Kp.below {w w1 : World} (h : Kp w w1 []) : Below w.heap.size w w1 := ⟨h.os, h.tape, h.output, h.size, fun k hk => h.block k hk (by simp)⟩

/-- An arena at block rb, its bytes in block mb: n bytes, the i-th f i; its cost. -/
def Ar (w : World) (rb mb n : Nat) (f : Nat → Int) (c : Int) : Prop :=
  ∃ cap cur, w.heap[rb]? = some (.cells #[.slice (some ⟨mb, 0, none⟩) n cap, .int .i64 c] 85 (0, 0)) ∧ w.heap[mb]? = some (.cells cur 5 (0, 0)) ∧
    n ≤ cap ∧ cur.size = cap ∧ cap ≤ maxLen ∧ ∀ i, i < n → cur[i]? = some (.int .u8 (f i)) ∧ 0 ≤ f i ∧ f i < 256

theorem cell_two0 {w : World} {b : Nat} {v u : Value} {t : TypeId} (h : w.heap[b]? = some (.cells #[v, u] t (0, 0))) : w.cell? ⟨b, 0, none⟩ = some v := by simp [World.cell?, h]
theorem cell_two1 {w : World} {b : Nat} {v u : Value} {t : TypeId} (h : w.heap[b]? = some (.cells #[v, u] t (0, 0))) : w.cell? ⟨b, 1, none⟩ = some u := by simp [World.cell?, h]
theorem free_two {w : World} {b i : Nat} {v u : Value} {t : TypeId} (h : w.heap[b]? = some (.cells #[v, u] t (0, 0))) : w.frozen? ⟨b, i, none⟩ = false := by simp [World.frozen?, h]
theorem two_setCell1 {w : World} {b : Nat} {v u x : Value} {t : TypeId} (h : w.heap[b]? = some (.cells #[v, u] t (0, 0))) : (w.setCell ⟨b, 1, none⟩ x).heap[b]? = some (.cells #[v, x] t (0, 0)) := by
  rw [heap_setCell_same w b 1 _ t x h]
  rfl

/-- A cell stands behind three new blocks. -/
theorem cell_three {w : World} {b i : Nat} {v : Value} {o1 o2 o3 : Obj} (h : w.cell? ⟨b, i, none⟩ = some v) : (((w.alloc o1).alloc o2).alloc o3).cell? ⟨b, i, none⟩ = some v := by
  have hlt := World.block_lt_of_cell? w _ h
  refine (World.cell?_of_block (a := ⟨b, i, none⟩) ?_).trans h
  have hlt' : b < w.heap.size := hlt
  show (((w.alloc o1).alloc o2).alloc o3).heap[b]? = w.heap[b]?
  rw [Below.heap_alloc _ _ _ (by simp; omega), Below.heap_alloc _ _ _ (by simp; omega), Below.heap_alloc _ _ _ hlt']

theorem Ar.keep {w w' : World} {rb mb n : Nat} {f : Nat → Int} {c : Int} (h : Ar w rb mb n f c) {rows : List Nat} (hk : Kp w w' rows) (h1 : rb ∉ rows) (h2 : mb ∉ rows) : Ar w' rb mb n f c := by
  obtain ⟨cap, cur, hr, hm, a⟩ := h
  exact ⟨cap, cur, (hk.block rb (lt_of_block hr) h1).trans hr, (hk.block mb (lt_of_block hm) h2).trans hm, a⟩
theorem Ar.lt {w : World} {rb mb n : Nat} {f : Nat → Int} {c : Int} (h : Ar w rb mb n f c) : rb < w.heap.size ∧ mb < w.heap.size := by
  obtain ⟨cap, cur, hr, hm, a⟩ := h
  exact ⟨lt_of_block hr, lt_of_block hm⟩
theorem Ar.ne {w : World} {rb mb n : Nat} {f : Nat → Int} {c : Int} (h : Ar w rb mb n f c) : rb ≠ mb := by
  obtain ⟨cap, cur, hr, hm, a⟩ := h
  rintro rfl
  rw [hm] at hr
  simp at hr
theorem Ar.congr {w : World} {rb mb n : Nat} {f g : Nat → Int} {c : Int} (h : Ar w rb mb n f c) (hfg : ∀ i, i < n → g i = f i) : Ar w rb mb n g c := by
  obtain ⟨cap, cur, hr, hm, a1, a2, a3, a4⟩ := h
  exact ⟨cap, cur, hr, hm, a1, a2, a3, fun i hi => by rw [hfg i hi]; exact a4 i hi⟩

/-! ### Bytes that are read -/
/-- The slice value v reads as the numbers l in w. -/
def Bs (w : World) (v : Value) (l : List Int) : Prop :=
  ∃ ao cap, v = .slice ao l.length cap ∧ l.length ≤ cap ∧ (ao = none → cap = 0) ∧
    (l ≠ [] → ∃ b off, ao = some ⟨b, off, none⟩ ∧ ∀ i, i < l.length → w.cell? ⟨b, off + i, none⟩ = some (.int .u8 (l.getD i 0)))

/-- Each is a byte. -/
def Byt (l : List Int) : Prop := ∀ x ∈ l, 0 ≤ x ∧ x < 256

theorem Bs.keep {w w' : World} {v : Value} {l : List Int} (h : Bs w v l) (hk : ∀ k, v.ownBlock = some k → w'.heap[k]? = w.heap[k]?) : Bs w' v l := by
  obtain ⟨ao, cap, rfl, hl, hn, hc⟩ := h
  refine ⟨ao, cap, rfl, hl, hn, fun hne => ?_⟩
  obtain ⟨b, off, rfl, hcell⟩ := hc hne
  exact ⟨b, off, rfl, fun i hi => (World.cell?_of_block (a := ⟨b, off + i, none⟩) (hk b rfl)).trans (hcell i hi)⟩

theorem Bs.lt {w : World} {v : Value} {l : List Int} (h : Bs w v l) (hne : l ≠ []) : ∀ k, v.ownBlock = some k → k < w.heap.size := by
  obtain ⟨ao, cap, rfl, hl, hn, hc⟩ := h
  obtain ⟨b, off, rfl, hcell⟩ := hc hne
  intro k hk
  simp [Value.ownBlock] at hk
  subst hk
  have := hcell 0 (by cases l <;> simp_all)
  exact World.block_lt_of_cell? w _ this

/-- What the call owns reads so. -/
theorem Bs.of_owns {w : World} {base : Nat} {v : Value} {l : List Int} (h : w.ownsRow base 5 1 v l.length (ub l)) : Bs w v l := by
  rcases h.2 with ⟨rfl, h0⟩ | ⟨g, cap, cur, rfl, hb, hg, hnc, hcm, hcs, htake⟩
  · have : l = [] := List.eq_nil_of_length_eq_zero h0
    subst this
    exact ⟨none, 0, rfl, by simp, fun _ => rfl, fun h => absurd rfl h⟩
  · refine ⟨some ⟨g, 0, none⟩, cap, rfl, hnc, fun h => by simp at h, fun _ => ⟨g, 0, rfl, fun i hi => ?_⟩⟩
    have := h.cellAt i (by omega)
    rw [Nat.zero_add, this]
    simp [ub, List.getElem?_eq_getElem hi]

theorem Bs.cells {w w' : World} {ao : Option Addr} {cap : Nat} {l : List Int} {a : Addr} (h : Bs w (.slice ao l.length cap) l) (ha : ao = some a) (hk : ∀ k, k < w.heap.size → w'.heap[k]? = w.heap[k]?) :
    ∀ j u, (ub l)[j]? = some u → w'.cell? (a.add j) = some u := by
  intro j u hu
  have hj : j < l.length := by have := (List.getElem?_eq_some_iff.1 hu).1; simpa [ub] using this
  have hne : l ≠ [] := by intro e; subst e; simp at hj
  have hk' := h.lt hne
  obtain ⟨ao', cap', hv, hl, hn, hc⟩ := h
  simp only [Value.slice.injEq, true_and] at hv
  obtain ⟨rfl, rfl⟩ := hv
  obtain ⟨b, off, rfl, hcell⟩ := hc hne
  simp only [Option.some.injEq] at ha
  subst ha
  rw [Addr.add_lit, World.cell?_of_block (w := w) (hk b (hk' b rfl)), hcell j hj]
  simp [ub, List.getElem?_eq_getElem hj] at hu
  simp [List.getElem?_eq_getElem hj, hu]

theorem grown_new {w w1 : World} {o : Obj} {row : Option Nat} (hg : (w.alloc o).grownBy w1 row) (hr : ∀ k, row = some k → w.heap.size ≤ k) : w.grownBy w1 none :=
  ⟨hg.os, hg.tape, hg.output, by have := hg.size; simp at this; omega, fun k hk _ => (hg.block k (by simp; omega) (fun e => by have := hr k e.symm; omega)).trans (Below.heap_alloc _ _ _ hk)⟩
theorem owns_shape {w : World} {base e s : Nat} {v : Value} {n : Nat} {xs : List Value} (h : w.ownsRow base e s v n xs) : ∃ ao cap, v = .slice ao n cap := by
  rcases h.2 with ⟨rfl, rfl⟩ | ⟨g, cap, cur, rfl, -⟩
  · exact ⟨_, _, rfl⟩
  · exact ⟨_, _, rfl⟩

/-- Bytes as a string. -/
theorem conv_bs {w : World} {v : Value} {l : List Int} (h : Bs w v l) : (convert 40 9 v).run Tryz.prog w = .ok (.string (strOfNums l)) w := by
  obtain ⟨ao, cap, rfl, hl, hn, hc⟩ := h
  by_cases hl0 : l = []
  · subst hl0
    cases ao with
    | none => exact run_convert_bytes_nil w 40 5 Tryz.underlying40 Tryz.underlying5 _ _ 9 Tryz.underlying9
    | some a =>
      rw [run_convert_bytes_string w 40 9 5 _ _ _ Tryz.underlying40 Tryz.underlying5 Tryz.underlying9, run_bytesToString w a _ cap [] (by simp [loadCells, loadCellsFrom])]
      rfl
  · obtain ⟨b, off, rfl, hcell⟩ := hc hl0
    exact run_convert_bytes_arg w 40 5 Tryz.underlying40 Tryz.underlying5 b off l.length cap l rfl hcell 9 Tryz.underlying9

theorem sn_toList (l : List Int) : (strOfNums l).toList = l.map fun n => UInt8.ofNat n.toNat := by rw [ByteArray.toList_eq, strOfNums_data]

end Go.Proofs.YtgefmnnkpffpcaaGreatDoor

/- Which bytes and words an arena has. -/
namespace Go.Proofs.YtgefmnnkpffpcaaGreatDoor
open Go.RowKit

/-- Are these m bytes from o on there? -/
def hasB (n : Nat) (o m : Int) : Bool := decide (0 ≤ o ∧ 0 ≤ m ∧ m ≤ n - o)
def hasW (n : Nat) (o : Int) : Bool := decide (0 ≤ o ∧ o % 4 = 0 ∧ 4 ≤ (n : Int) - o)

set_option maxRecDepth 100000 in
theorem hasBytes_any (w : World) (rb n cap : Nat) (ao : Option Addr) (o m : Int) (hn : n ≤ 65536) (h4 : o ≤ 9223372036854775807) (hc0 : w.cell? ⟨rb, 0, none⟩ = some (.slice ao n cap)) :
    Calls Tryz.prog 106 #[.pointer (some ⟨rb, 0, none⟩), .int .i64 o, .int .i64 m] w fun e w' => e = .returned (.bool (hasB n o m)) ∧ w' = w := by
  obtain ⟨B, hB⟩ : ∃ B, B = hasB n o m := ⟨_, rfl⟩
  rw [← hB]
  unfold hasB at hB
  by_cases h1 : 0 ≤ o
  · by_cases h2 : 0 ≤ m
    · by_cases h3 : m ≤ n - o
      · have hb : B = true := by rw [hB]; exact decide_eq_true ⟨h1, h2, h3⟩
        clear hB
        subst hb
        go_enter Tryz.func106, Tryz.ntmps106
        go_wp2
        go_ret
        exact ⟨rfl, rfl⟩
      · have hb : B = false := by rw [hB]; exact decide_eq_false (fun h => h3 h.2.2)
        clear hB
        subst hb
        go_enter Tryz.func106, Tryz.ntmps106
        go_wp2
        go_ret
        exact ⟨rfl, rfl⟩
    · have hb : B = false := by rw [hB]; exact decide_eq_false (fun h => h2 h.2.1)
      clear hB
      subst hb
      go_enter Tryz.func106, Tryz.ntmps106
      go_wp2
      go_ret
      exact ⟨rfl, rfl⟩
  · have hb : B = false := by rw [hB]; exact decide_eq_false (fun h => h1 h.1)
    clear hB
    subst hb
    go_enter Tryz.func106, Tryz.ntmps106
    go_wp2
    go_ret
    exact ⟨rfl, rfl⟩

set_option maxRecDepth 100000 in
theorem hasWord_any (w : World) (rb n cap : Nat) (ao : Option Addr) (o : Int) (hn : n ≤ 65536) (h4 : o ≤ 9223372036854775807) (hc0 : w.cell? ⟨rb, 0, none⟩ = some (.slice ao n cap)) :
    Calls Tryz.prog 89 #[.pointer (some ⟨rb, 0, none⟩), .int .i64 o] w fun e w' => e = .returned (.bool (hasW n o)) ∧ w' = w := by
  obtain ⟨B, hB⟩ : ∃ B, B = hasW n o := ⟨_, rfl⟩
  obtain ⟨C, hC⟩ : ∃ C, C = hasB n o 4 := ⟨_, rfl⟩
  have HC := hid hC
  rw [← hB]
  by_cases h1 : 0 ≤ o
  · by_cases h2 : o % 4 = 0
    · have hb : B = C := by rw [hB, hC]; unfold hasW hasB; simp [h1, h2]
      have h3 : (o % 4 == 0) = true := by simp [h2]
      clear hB hC h2
      subst hb
      go_enter Tryz.func89, Tryz.ntmps89
      go_wp2_with fail
      refine (hasBytes_any w rb n cap ao o 4 hn h4 hc0).mono ?_
      rintro e w1 ⟨rfl, rfl⟩
      rw [← HC.out]
      clear h3 hc0
      go_wp2
      go_ret
      exact ⟨rfl, rfl⟩
    · have hb : B = false := by rw [hB]; exact decide_eq_false (fun h => h2 h.2.1)
      have h3 : (o % 4 == 0) = false := by simp [h2]
      clear hB hC h2
      subst hb
      go_enter Tryz.func89, Tryz.ntmps89
      go_wp2_with fail
      go_ret
      exact ⟨rfl, rfl⟩
  · have hb : B = false := by rw [hB]; exact decide_eq_false (fun h => h1 h.1)
    have hc : C = false := by rw [hC]; exact decide_eq_false (fun h => h1 h.1)
    clear hB hC
    subst hb
    subst hc
    by_cases h3 : (o.tmod 4 == 0) = true
    · go_enter Tryz.func89, Tryz.ntmps89
      go_wp2_with fail
      refine (hasBytes_any w rb n cap ao o 4 hn h4 hc0).mono ?_
      rintro e w1 ⟨rfl, rfl⟩
      rw [← HC.out]
      clear h3 hc0
      go_wp2
      go_ret
      exact ⟨rfl, rfl⟩
    · have h5 : (o.tmod 4 == 0) = false := by simpa using h3
      clear h3
      go_enter Tryz.func89, Tryz.ntmps89
      go_wp2_with fail
      go_ret
      exact ⟨rfl, rfl⟩
end Go.Proofs.YtgefmnnkpffpcaaGreatDoor

/- Why a call is refused: what is asked first is told by a closure. -/
namespace Go.Proofs.YtgefmnnkpffpcaaGreatDoor
open Go.RowKit

theorem not_nil (w : World) (mb n cap : Nat) : (binOp .eql 40 (.slice (some ⟨mb, 0, none⟩) n cap) (.slice none 0 0)).run Tryz.prog w = .ok (.bool false) w := by
  simpa using Lib.run_eql_slice_nil (P := Tryz.prog) w 40 5 (some ⟨mb, 0, none⟩) n cap 0 0 Tryz.underlying40

set_option maxRecDepth 100000 in
theorem set1 (w : World) (p0 p1 rb n cap : Nat) (ao : Option Addr) (o : Int) (hn : n ≤ 65536) (h4 : o ≤ 9223372036854775807) (h0 : w.cell? ⟨p0, 0, none⟩ = some (.pointer (some ⟨rb, 0, none⟩))) (h1 : w.cell? ⟨p1, 0, none⟩ = some (.int .i64 o)) (hc0 : w.cell? ⟨rb, 0, none⟩ = some (.slice ao n cap)) :
    Calls Tryz.prog 108 #[.pointer (some ⟨p0, 0, none⟩), .pointer (some ⟨p1, 0, none⟩)] w fun e w' => e = .returned (.bool (hasW n o)) ∧ w' = w := by
  go_enter Tryz.func108, Tryz.ntmps108
  go_wp2_with fail
  refine (hasWord_any w rb n cap ao o hn h4 hc0).mono ?_
  rintro e w1 ⟨rfl, rfl⟩
  go_wp2
  go_ret
  exact ⟨rfl, rfl⟩
set_option maxRecDepth 100000 in
theorem set_ref (w : World) (p0 p1 rb mb n cap : Nat) (o : Int) (hn : n ≤ 65536) (h4 : o ≤ 9223372036854775807) (h0 : w.cell? ⟨p0, 0, none⟩ = some (.pointer (some ⟨rb, 0, none⟩))) (h1 : w.cell? ⟨p1, 0, none⟩ = some (.int .i64 o)) (hc0 : w.cell? ⟨rb, 0, none⟩ = some (.slice (some ⟨mb, 0, none⟩) n cap)) :
    Calls Tryz.prog 87 #[.pointer (some ⟨rb, 0, none⟩), .func (.func 108) #[] #[.pointer (some ⟨p0, 0, none⟩), .pointer (some ⟨p1, 0, none⟩)]] w fun e w' => e = .returned (.int .i64 (if hasW n o then 0 else 2)) ∧ w' = w := by
  have hnn := fun w : World => not_nil w mb n cap
  obtain ⟨B, hB⟩ : ∃ B, hasW n o = B := ⟨_, rfl⟩
  rw [hB]
  have HB := hid hB
  clear hB
  cases B
  all_goals simp only [Bool.false_eq_true, if_false, if_true]
  all_goals go_enter Tryz.func87, Tryz.ntmps87
  all_goals go_wp2_with (go_at_call 52; go_in)
  all_goals refine (set1 w p0 p1 rb n cap (some ⟨mb, 0, none⟩) o hn h4 h0 h1 hc0).mono ?_
  all_goals rintro e w1 ⟨rfl, rfl⟩
  all_goals rw [HB.out]
  all_goals clear hnn
  all_goals go_wp2
  all_goals go_ret
  all_goals exact ⟨rfl, rfl⟩

set_option maxRecDepth 100000 in
theorem get1 (w : World) (p0 p1 rb n cap : Nat) (ao : Option Addr) (o : Int) (hn : n ≤ 65536) (h4 : o ≤ 9223372036854775807) (h0 : w.cell? ⟨p0, 0, none⟩ = some (.pointer (some ⟨rb, 0, none⟩))) (h1 : w.cell? ⟨p1, 0, none⟩ = some (.int .i64 o)) (hc0 : w.cell? ⟨rb, 0, none⟩ = some (.slice ao n cap)) :
    Calls Tryz.prog 88 #[.pointer (some ⟨p0, 0, none⟩), .pointer (some ⟨p1, 0, none⟩)] w fun e w' => e = .returned (.bool (hasW n o)) ∧ w' = w := by
  go_enter Tryz.func88, Tryz.ntmps88
  go_wp2_with fail
  refine (hasWord_any w rb n cap ao o hn h4 hc0).mono ?_
  rintro e w1 ⟨rfl, rfl⟩
  go_wp2
  go_ret
  exact ⟨rfl, rfl⟩
set_option maxRecDepth 100000 in
theorem get_ref (w : World) (p0 p1 rb mb n cap : Nat) (o : Int) (hn : n ≤ 65536) (h4 : o ≤ 9223372036854775807) (h0 : w.cell? ⟨p0, 0, none⟩ = some (.pointer (some ⟨rb, 0, none⟩))) (h1 : w.cell? ⟨p1, 0, none⟩ = some (.int .i64 o)) (hc0 : w.cell? ⟨rb, 0, none⟩ = some (.slice (some ⟨mb, 0, none⟩) n cap)) :
    Calls Tryz.prog 87 #[.pointer (some ⟨rb, 0, none⟩), .func (.func 88) #[] #[.pointer (some ⟨p0, 0, none⟩), .pointer (some ⟨p1, 0, none⟩)]] w fun e w' => e = .returned (.int .i64 (if hasW n o then 0 else 2)) ∧ w' = w := by
  have hnn := fun w : World => not_nil w mb n cap
  obtain ⟨B, hB⟩ : ∃ B, hasW n o = B := ⟨_, rfl⟩
  rw [hB]
  have HB := hid hB
  clear hB
  cases B
  all_goals simp only [Bool.false_eq_true, if_false, if_true]
  all_goals go_enter Tryz.func87, Tryz.ntmps87
  all_goals go_wp2_with (go_at_call 52; go_in)
  all_goals refine (get1 w p0 p1 rb n cap (some ⟨mb, 0, none⟩) o hn h4 h0 h1 hc0).mono ?_
  all_goals rintro e w1 ⟨rfl, rfl⟩
  all_goals rw [HB.out]
  all_goals clear hnn
  all_goals go_wp2
  all_goals go_ret
  all_goals exact ⟨rfl, rfl⟩

set_option maxRecDepth 100000 in
theorem read1 (w : World) (p0 p1 p2 rb n cap : Nat) (ao : Option Addr) (o : Int) (m : Int) (hn : n ≤ 65536) (h4 : o ≤ 9223372036854775807) (h0 : w.cell? ⟨p0, 0, none⟩ = some (.pointer (some ⟨rb, 0, none⟩))) (h1 : w.cell? ⟨p1, 0, none⟩ = some (.int .i64 o)) (h2 : w.cell? ⟨p2, 0, none⟩ = some (.int .i64 m)) (hc0 : w.cell? ⟨rb, 0, none⟩ = some (.slice ao n cap)) :
    Calls Tryz.prog 121 #[.pointer (some ⟨p0, 0, none⟩), .pointer (some ⟨p1, 0, none⟩), .pointer (some ⟨p2, 0, none⟩)] w fun e w' => e = .returned (.bool (hasB n o m)) ∧ w' = w := by
  go_enter Tryz.func121, Tryz.ntmps121
  go_wp2_with fail
  refine (hasBytes_any w rb n cap ao o m hn h4 hc0).mono ?_
  rintro e w1 ⟨rfl, rfl⟩
  go_wp2
  go_ret
  exact ⟨rfl, rfl⟩
set_option maxRecDepth 100000 in
theorem read_ref (w : World) (p0 p1 p2 rb mb n cap : Nat) (o : Int) (m : Int) (hn : n ≤ 65536) (h4 : o ≤ 9223372036854775807) (h0 : w.cell? ⟨p0, 0, none⟩ = some (.pointer (some ⟨rb, 0, none⟩))) (h1 : w.cell? ⟨p1, 0, none⟩ = some (.int .i64 o)) (h2 : w.cell? ⟨p2, 0, none⟩ = some (.int .i64 m)) (hc0 : w.cell? ⟨rb, 0, none⟩ = some (.slice (some ⟨mb, 0, none⟩) n cap)) :
    Calls Tryz.prog 87 #[.pointer (some ⟨rb, 0, none⟩), .func (.func 121) #[] #[.pointer (some ⟨p0, 0, none⟩), .pointer (some ⟨p1, 0, none⟩), .pointer (some ⟨p2, 0, none⟩)]] w fun e w' => e = .returned (.int .i64 (if hasB n o m then 0 else 2)) ∧ w' = w := by
  have hnn := fun w : World => not_nil w mb n cap
  obtain ⟨B, hB⟩ : ∃ B, hasB n o m = B := ⟨_, rfl⟩
  rw [hB]
  have HB := hid hB
  clear hB
  cases B
  all_goals simp only [Bool.false_eq_true, if_false, if_true]
  all_goals go_enter Tryz.func87, Tryz.ntmps87
  all_goals go_wp2_with (go_at_call 52; go_in)
  all_goals refine (read1 w p0 p1 p2 rb n cap (some ⟨mb, 0, none⟩) o m hn h4 h0 h1 h2 hc0).mono ?_
  all_goals rintro e w1 ⟨rfl, rfl⟩
  all_goals rw [HB.out]
  all_goals clear hnn
  all_goals go_wp2
  all_goals go_ret
  all_goals exact ⟨rfl, rfl⟩

set_option maxRecDepth 100000 in
theorem write1 (w : World) (p0 p1 p2 rb n cap : Nat) (ao : Option Addr) (o : Int) (bo : Option Addr) (m mc : Nat) (hn : n ≤ 65536) (h4 : o ≤ 9223372036854775807) (h0 : w.cell? ⟨p0, 0, none⟩ = some (.pointer (some ⟨rb, 0, none⟩))) (h1 : w.cell? ⟨p1, 0, none⟩ = some (.int .i64 o)) (h2 : w.cell? ⟨p2, 0, none⟩ = some (.slice bo m mc)) (hc0 : w.cell? ⟨rb, 0, none⟩ = some (.slice ao n cap)) :
    Calls Tryz.prog 105 #[.pointer (some ⟨p0, 0, none⟩), .pointer (some ⟨p1, 0, none⟩), .pointer (some ⟨p2, 0, none⟩)] w fun e w' => e = .returned (.bool (hasB n o m)) ∧ w' = w := by
  go_enter Tryz.func105, Tryz.ntmps105
  go_wp2_with fail
  refine (hasBytes_any w rb n cap ao o m hn h4 hc0).mono ?_
  rintro e w1 ⟨rfl, rfl⟩
  go_wp2
  go_ret
  exact ⟨rfl, rfl⟩
set_option maxRecDepth 100000 in
theorem write_ref (w : World) (p0 p1 p2 rb mb n cap : Nat) (o : Int) (bo : Option Addr) (m mc : Nat) (hn : n ≤ 65536) (h4 : o ≤ 9223372036854775807) (h0 : w.cell? ⟨p0, 0, none⟩ = some (.pointer (some ⟨rb, 0, none⟩))) (h1 : w.cell? ⟨p1, 0, none⟩ = some (.int .i64 o)) (h2 : w.cell? ⟨p2, 0, none⟩ = some (.slice bo m mc)) (hc0 : w.cell? ⟨rb, 0, none⟩ = some (.slice (some ⟨mb, 0, none⟩) n cap)) :
    Calls Tryz.prog 87 #[.pointer (some ⟨rb, 0, none⟩), .func (.func 105) #[] #[.pointer (some ⟨p0, 0, none⟩), .pointer (some ⟨p1, 0, none⟩), .pointer (some ⟨p2, 0, none⟩)]] w fun e w' => e = .returned (.int .i64 (if hasB n o m then 0 else 2)) ∧ w' = w := by
  have hnn := fun w : World => not_nil w mb n cap
  obtain ⟨B, hB⟩ : ∃ B, hasB n o m = B := ⟨_, rfl⟩
  rw [hB]
  have HB := hid hB
  clear hB
  cases B
  all_goals simp only [Bool.false_eq_true, if_false, if_true]
  all_goals go_enter Tryz.func87, Tryz.ntmps87
  all_goals go_wp2_with (go_at_call 52; go_in)
  all_goals refine (write1 w p0 p1 p2 rb n cap (some ⟨mb, 0, none⟩) o bo m mc hn h4 h0 h1 h2 hc0).mono ?_
  all_goals rintro e w1 ⟨rfl, rfl⟩
  all_goals rw [HB.out]
  all_goals clear hnn
  all_goals go_wp2
  all_goals go_ret
  all_goals exact ⟨rfl, rfl⟩
end Go.Proofs.YtgefmnnkpffpcaaGreatDoor
