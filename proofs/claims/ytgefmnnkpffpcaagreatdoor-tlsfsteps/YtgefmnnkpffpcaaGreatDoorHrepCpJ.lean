/- A piece's words go to another piece; the heap between calls stays sound. No Go is walked here. -/
import Derived.Test.YtgefmnnkpffpcaaGreatDoorHrepGrowJ
import Derived.Test.YtgefmnnkpffpcaaGreatDoorHmoveJ
import Derived.Test.YtgefmnnkpffpcaaGreatDoorHpieceJ
import Derived.Laws.AppendOwn
import Derived.Test.YtgefmnnkpffpcaaGreatDoorHhasJ
namespace Go.Proofs.YtgefmnnkpffpcaaGreatDoor

theorem Hs.lay {n : Nat} {g g' : Mem} {L : List Bl} {F : Nat → List Int} (h : Hs n g L F) (e : ∀ o : Int, 0 ≤ o → ¬ inQ (piecesOf L) o → g' o.toNat = g o.toNat) : Hs n g' L F := ⟨h.rep.lay e, h.nf, h.lo⟩
/-- A word within a piece is laid. -/
theorem hs_set {n : Nat} {g : Mem} {L : List Bl} {F : Nat → List Int} (h : Hs n g L F) {o : Int} (h0 : 0 ≤ o) (ho : inQ (piecesOf L) o) (x : Int) : Hs n (upd g o.toNat x) L F :=
  h.lay fun p hp hq => by
    unfold upd
    rw [if_neg]
    intro e
    have : p = o := by omega
    exact hq (this ▸ ho)
theorem hs_cp {n : Nat} {g : Mem} {L : List Bl} {F : Nat → List Int} (h : Hs n g L F) {t s : Int} (hp : (t, s) ∈ piecesOf L) (j : Nat) {k : Nat} (hk : (k : Int) ≤ s - 8) : Hs n (cpW g t.toNat j k) L F := by
  have ht := pieces_at h.rep.ct hp
  simp only at ht
  refine h.lay fun o h0 hq => ?_
  unfold cpW
  rw [if_neg]
  rintro ⟨q1, q2⟩
  exact hq ⟨(t, s), hp, by show t ≤ o; omega, by show o < t - 8 + s; omega⟩
theorem give_mem {A r : List Bl} {b s m : Int} {F : Nat → List Int} {x : Bl} (hx : x ∈ A ++ (b, s, true) :: r) (hf : x.2.2 = false) : x ∈ (giveR A b s m r F).1 := by
  have hx' : x ∈ A ∨ x ∈ r := by
    rcases List.mem_append.1 hx with q | q
    · exact .inl q
    · rcases List.mem_cons.1 q with q | q
      · rw [q] at hf; cases hf
      · exact .inr q
  unfold giveR
  split
  · rcases hx' with q | q <;> simp [q]
  · rcases hx' with q | q <;> simp [q]
/-- Realloc elsewhere: behind Alloc the words are carried over, and the old piece is freed. -/
theorem hs_move {n : Nat} {g1 : Mem} {A r A1 r1 : List Bl} {F F1 : Nat → List Int} {b s m a z : Int} (h : Hs n g1 (giveR A b s m r F).1 F1) (hL : (giveR A b s m r F).1 = A1 ++ (a, z, false) :: r1) (j : Nat) {k : Nat} (hms : m ≤ s) (hk : (k : Int) ≤ m - 8) :
    Hs n (freed n (cpW g1 (b + 8).toNat j k) (delP (piecesOf (giveR A b s m r F).1) (a + 8)) a z) (freedX A1 a z r1 F1).1 (freedX A1 a z r1 F1).2 ∧
    ∀ o, inQ (piecesOf A1 ++ piecesOf r1) o → freed n (cpW g1 (b + 8).toNat j k) (delP (piecesOf (giveR A b s m r F).1) (a + 8)) a z o.toNat = cpW g1 (b + 8).toNat j k o.toNat := by
  have hp : (b + 8, if 16 ≤ s - m then m else s) ∈ piecesOf (giveR A b s m r F).1 := by rw [pieces_give]; simp
  have h2 := hs_cp h hp j (k := k) (by split <;> omega)
  rw [hL] at h2 ⊢
  exact hs_free h2
end Go.Proofs.YtgefmnnkpffpcaaGreatDoor

/- The map's keys, sorted. -/
namespace Go.Proofs.YtgefmnnkpffpcaaGreatDoor
open Go.RowKit Go.Maps Go.Sort Go.Shelf

theorem Kp.of_below {w w' : World} (h : Below w.heap.size w w') : Kp w w' [] := ⟨h.os, h.tape, h.output, h.size, fun k hk _ => h.block k hk⟩

theorem keys_any (b : Nat) (W : World) : Calls Tryz.prog 118 #[.map (some b)] W fun e w' => e = .returned (.func (.func 125) #[] #[.pointer (some ⟨W.heap.size, 0, none⟩)]) ∧ w' = W.alloc (.cells #[.map (some b)] 65) :=
  (callsIn_wide (n := 5)).1 (AnyZI.keys_in Tryz.laysKeys Fence.wide 5 trivial rfl (some b) W)

theorem sorts_wide (m : Nat) : AnyZI.SortsIn Tryz.prog Tryz.laysSorted_ren Fence.wide m :=
  ⟨fun blk off cap ss W hH hblk hsz => callsIn_wide.2 (AnyM.slices_Sort_int Tryz.laysSort blk off cap ss W hH hblk hsz),
   fun p cap W => callsIn_wide.2 (AnyM.slices_Sort_int_none Tryz.laysSort p cap W)⟩

set_option maxHeartbeats 1000000 in
theorem sorted_any (b : Nat) (P : Pcs) (w : World) (hm : Mp w b P) (hl : P.length ≤ 65536) :
    Calls Tryz.prog 117 #[.func (.func 125) #[] #[.pointer (some ⟨w.heap.size, 0, none⟩)]] (w.alloc (.cells #[.map (some b)] 65)) fun e w' => ∃ v, e = .returned v ∧
      w'.ownsRow (w.heap.size + 1) 3 1 v P.length (P.map fun p => .int .i64 p.1) ∧ Kp (w.alloc (.cells #[.map (some b)] 65)) w' [] := by
  have hbl := World.ownsMap.lt hm
  have hmax : Maps.size (dat P) ≤ maxLen := by rw [dat_size]; unfold maxLen; omega
  have hbytes : Maps.size (dat P) * 8 ≤ 140737488355328 := by rw [dat_size]; omega
  have hseq : SeqGives Fence.wide 2 Tryz.prog 125 #[.pointer (some ⟨w.heap.size, 0, none⟩)] encZ (fun ss => ss.Perm (intKeys (dat P))) (Maps.size (dat P)) (w.alloc (.cells #[.map (some b)] 65)) :=
    AnyZI.keys_gives (ρ := Tryz.laysKeys_ren) { Tryz.laysKeys with } Fence.wide _ trivial rfl (by omega) w.heap.size b P.length (dat P) _ (by simp) (by simp) (by
      obtain ⟨es, clock, hb, Ft, hs, hD⟩ := hm
      exact ⟨es, clock, (Below.heap_alloc _ _ b hbl).trans hb, Ft, hs, hD⟩)
  have cS := AnyZI.sorted_in Tryz.laysSorted Fence.wide 5 trivial trivial trivial trivial rfl (by omega) (sorts_wide _) (enters_of Tryz.func124 (by kernel_rfl) rfl) 125 #[.pointer (some ⟨w.heap.size, 0, none⟩)] trivial (enters_of Tryz.func125 (by kernel_rfl) rfl) _ _ hmax hbytes _ hseq
  change CallsIn _ _ Tryz.prog 117 _ _ _ at cS
  refine (callsIn_wide.1 cS).mono ?_
  rintro e w' ⟨v, ss, rfl, hS, hrow, -, hb⟩
  have e1 : ss.length = P.length := by rw [hS.length_eq, dat_keys]; simp
  have e2 : ss.mergeSort leI = P.map (·.1) := by rw [mergeSort_of_perm_i hS, dat_keys]; exact hm.rises.sorted
  refine ⟨v, rfl, ?_, Kp.of_below hb⟩
  have hrow' : w'.ownsRow (w.alloc (.cells #[.map (some b)] 65)).heap.size 3 1 v ss.length ((ss.mergeSort leI).map encZ) := hrow
  rw [e1, e2] at hrow'
  simpa [Function.comp_def] using hrow'
end Go.Proofs.YtgefmnnkpffpcaaGreatDoor

/- blocks: the pieces' ones, and the free ones between them. -/
namespace Go.Proofs.YtgefmnnkpffpcaaGreatDoor
open Go.RowKit Go.Maps

/-- A block: where, how great, is it free? -/
abbrev Bk := Int × Int × Bool
def bcells (l : List Bk) : List Value := l.flatMap fun b => [.int .i64 b.1, .int .i64 b.2.1, .bool b.2.2]
theorem bcells_append (l r : List Bk) : bcells (l ++ r) = bcells l ++ bcells r := by simp [bcells]
theorem bcells_one (b : Bk) : bcells [b] = [.int .i64 b.1, .int .i64 b.2.1, .bool b.2.2] := rfl
theorem bcells_length (l : List Bk) : (bcells l).length = l.length * 3 := by
  induction l with
  | nil => rfl
  | cons b r ih => rw [show b :: r = [b] ++ r from rfl, bcells_append, List.length_append, ih, bcells_one]; simp; omega

theorem Tryz.info44 : (Tryz.prog.info? 44).map (fun i => (i.zero, i.size, i.bytes)) = some (some (.agg #[.int .i64 0, .int .i64 0, .bool false]), 3, 24) := by kernel_rfl

/-- blocks' two variables: the gap, and all so far. -/
structure Fl (w : World) (gp ap base : Nat) (gap : Int) (l : List Bk) : Prop where
  g : w.heap[gp]? = some (.cells #[.int .i64 gap] 3 (0, 0))
  a : ∃ v, w.heap[ap]? = some (.cells #[v] 38 (0, 0)) ∧ w.ownsRow base 44 3 v l.length (bcells l)
  hb : gp < base ∧ ap < base ∧ gp ≠ ap
  hw : base ≤ w.heap.size

theorem cell_one {w : World} {b : Nat} {v : Value} {t : TypeId} (h : w.heap[b]? = some (.cells #[v] t (0, 0))) : w.cell? ⟨b, 0, none⟩ = some v := by simp [World.cell?, h]
theorem free_one {w : World} {b : Nat} {v : Value} {t : TypeId} (h : w.heap[b]? = some (.cells #[v] t (0, 0))) : w.frozen? ⟨b, 0, none⟩ = false := by simp [World.frozen?, h]
theorem set_one {w : World} {b : Nat} {v u : Value} {t : TypeId} (h : w.heap[b]? = some (.cells #[v] t (0, 0))) : (w.setCell ⟨b, 0, none⟩ u).heap[b]? = some (.cells #[u] t (0, 0)) := by
  rw [heap_setCell_same w b 0 _ t u h]; rfl
/-- What fill adds. -/
def filled (gap e : Int) (l : List Bk) : List Bk := if gap < e then l ++ [(gap, e - gap, true)] else l

/-- What is kept while blocks goes on: all below base but the variable of all. -/
structure Fr (w w' : World) (base ap : Nat) : Prop where
  os : w'.os = w.os
  tape : w'.tape = w.tape
  output : w'.output = w.output
  size : w.heap.size ≤ w'.heap.size
  block : ∀ k, k < base → k ≠ ap → w'.heap[k]? = w.heap[k]?
theorem Fr.refl (w : World) (base ap : Nat) : Fr w w base ap := ⟨rfl, rfl, rfl, Nat.le_refl _, fun _ _ _ => rfl⟩
theorem Fr.trans {w w1 w2 : World} {base ap : Nat} (h : Fr w w1 base ap) (h' : Fr w1 w2 base ap) : Fr w w2 base ap :=
  ⟨h'.os.trans h.os, h'.tape.trans h.tape, h'.output.trans h.output, Nat.le_trans h.size h'.size, fun k hk hn => (h'.block k hk hn).trans (h.block k hk hn)⟩
theorem Fr.of_kp {w w' : World} {base ap : Nat} {rows : List Nat} (h : Kp w w' rows) (hb : base ≤ w.heap.size) (hr : ∀ k ∈ rows, base ≤ k ∨ k = ap) : Fr w w' base ap :=
  ⟨h.os, h.tape, h.output, h.size, fun k hk hn => h.block k (by omega) (fun hm => by have := hr k hm; omega)⟩
theorem Fr.of_grown {w w' : World} {base ap : Nat} {row : Option Nat} (h : w.grownBy w' row) (hb : base ≤ w.heap.size) (hr : ∀ k, row = some k → base ≤ k) : Fr w w' base ap :=
  ⟨h.os, h.tape, h.output, h.size, fun k hk _ => h.block k (by omega) (fun e => by have := hr k e.symm; omega)⟩

theorem cell_tri {w : World} {b : Nat} {x y z : Value} {t : TypeId} (h : w.heap[b]? = some (.cells #[x, y, z] t (0, 0))) : w.cell? ⟨b, 0, none⟩ = some x ∧ w.cell? ⟨b, 1, none⟩ = some y ∧ w.cell? ⟨b, 2, none⟩ = some z := by
  simp [World.cell?, h]
theorem cell3_new {w : World} {x y z : Value} {t : TypeId} : ∀ j u, [x, y, z][j]? = some u → (w.alloc (.cells #[x, y, z] t)).cell? ((⟨w.heap.size, 0, none⟩ : Addr).add j) = some u := by
  intro j u hu
  rw [Addr.add_lit, Nat.zero_add]
  have hh := cell_tri (heap_alloc_new w (.cells #[x, y, z] t))
  match j, hu with
  | 0, hu => simp at hu; rw [hh.1, hu]
  | 1, hu => simp at hu; rw [hh.2.1, hu]
  | 2, hu => simp at hu; rw [hh.2.2, hu]
  | j + 3, hu => simp at hu
theorem grown_set (w : World) (b : Nat) (v : Value) : w.grownBy (w.setCell ⟨b, 0, none⟩ v) (some b) := ⟨rfl, rfl, rfl, by simp, fun k _ hne => Below.heap_setCell _ _ _ _ (fun e => hne (by rw [e]))⟩
theorem bk_one (a z : Int) (f : Bool) : ∀ u ∈ [Value.int .i64 a, .int .i64 z, .bool f], u.oneCell' = true := by
  intro u hu
  simp at hu
  rcases hu with rfl | rfl | rfl <;> rfl
theorem own_ge {w : World} {base e s n : Nat} {v : Value} {xs : List Value} (h : w.ownsRow base e s v n xs) : ∀ k, v.ownBlock = some k → base ≤ k ∧ k < w.heap.size := by
  rcases h.2 with ⟨rfl, rfl⟩ | ⟨g, cap, cur, rfl, hb, hg, -⟩
  · intro k hk; simp [Value.ownBlock] at hk
  · intro k hk; simp [Value.ownBlock] at hk; subst hk; exact ⟨hb, lt_of_block hg⟩

/-- Behind an append to all. -/
theorem Fl.push {w w1 : World} {gp ap base : Nat} {gap : Int} {l : List Bk} {v v' : Value} {b : Bk} {o : Obj} (h : Fl w gp ap base gap l) (hv : w.heap[ap]? = some (.cells #[v] 38 (0, 0))) (hown : w.ownsRow base 44 3 v l.length (bcells l))
    (hown' : w1.ownsRow base 44 3 v' (l.length + 1) (bcells l ++ [.int .i64 b.1, .int .i64 b.2.1, .bool b.2.2])) (hg : (w.alloc o).grownBy w1 v.ownBlock) :
    Fl (w1.setCell ⟨ap, 0, none⟩ v') gp ap base gap (l ++ [b]) ∧ Fr w (w1.setCell ⟨ap, 0, none⟩ v') base ap ∧ w1.heap[ap]? = some (.cells #[v] 38 (0, 0)) := by
  have hb := h.hb
  have hw := h.hw
  have hge := own_ge hown
  have hne : ∀ k, k < base → some k ≠ v.ownBlock := fun k hk e => by have := (hge k e.symm).1; omega
  have ka : ∀ k, k < base → w1.heap[k]? = w.heap[k]? := fun k hk => (hg.block k (by simp; omega) (hne k hk)).trans (Below.heap_alloc w o k (by omega))
  have hs1 : w.heap.size ≤ w1.heap.size := by have := hg.size; simp at this; omega
  have hap := (ka ap hb.2.1).trans hv
  refine ⟨⟨?_, ⟨v', set_one hap, ?_⟩, hb, by simp; omega⟩, ⟨hg.os, hg.tape, hg.output, by simp; omega, fun k hk hn => ?_⟩, hap⟩
  · rw [Below.heap_setCell _ _ _ _ (by simp; omega), ka gp hb.1]; exact h.g
  · have e1 : (l ++ [b]).length = l.length + 1 := by simp
    rw [e1, bcells_append, bcells_one]
    exact hown'.kept (grown_set w1 ap v') (by
      right; intro e; have := (own_ge hown' ap e).1; omega)
  · rw [Below.heap_setCell _ _ _ _ (by simp; omega), ka k hk]

set_option maxRecDepth 100000 in
set_option maxHeartbeats 1000000 in
theorem fill_any (w : World) (gp ap base : Nat) (gap e : Int) (l : List Bk) (h : Fl w gp ap base gap l) (hl : l.length ≤ 1000000) (hg0 : 0 ≤ gap) (hg1 : gap < 1000000000) (he0 : -1000 ≤ e) (he1 : e < 1000000000) :
    Calls Tryz.prog 116 #[.int .i64 e, .pointer (some ⟨gp, 0, none⟩), .pointer (some ⟨ap, 0, none⟩)] w fun ed w' => ed = .returned (.tuple #[]) ∧ Fl w' gp ap base gap (filled gap e l) ∧ Fr w w' base ap := by
  obtain ⟨i0, hi, hz0, hz1, hz2⟩ := info_parts Tryz.info44
  obtain ⟨v, hv, hown⟩ := h.a
  have q0 := cell_one h.g
  have H := hid h
  have HV := hid hv
  have HO := hid hown
  have hbb := h.hb
  have hww := h.hw
  by_cases hge : gap < e
  · have E := hid (show filled gap e l = l ++ [(gap, e - gap, true)] by unfold filled; rw [if_pos hge])
    have q1 := cell_one hv
    have f1 := free_one hv
    clear h hv hown
    obtain ⟨ao, cp, rfl⟩ := owns_shape HO.out
    have hlt : ap < w.heap.size := by omega
    go_enter Tryz.func116, Tryz.ntmps116
    go_wp2_with (at_builtin; refine wpList_append_own _ rfl _ _ 38 rfl base 44 i0 (.agg #[.int .i64 0, .int .i64 0, .bool false]) 3 24 Tryz.underlying38 hi hz0 hz1 hz2 rfl (by decide) _ _ _ rfl (HO.out.alloc _) ⟨w.heap.size, 0, none⟩ 1 1 [.int .i64 gap, .int .i64 (e - gap), .bool true] rfl rfl cell3_new (bk_one _ _ _) (by unfold maxLen; omega) (by omega) (by simp; omega) ?_; intro v' w1 hown' hg hnil; obtain ⟨X1, X2, X3⟩ := H.out.push (b := (gap, e - gap, true)) HV.out HO.out hown' hg; have Y1 := hid X1; have Y2 := hid X2; have q2 := cell_one X3; have f2 := free_one X3; obtain ⟨ao', cp', rfl⟩ := owns_shape hown'; clear X1 X2 X3 hnil hown' hg q0 q1 f1)
    refine bodyPost_end (results_none rfl _ _ _) rfl ?_
    rw [E.out]
    exact ⟨rfl, Y1.out, Y2.out⟩
  · have E := hid (show filled gap e l = l by unfold filled; rw [if_neg hge])
    clear h hv hown
    go_enter Tryz.func116, Tryz.ntmps116
    go_wp2_with fail
    refine bodyPost_end (results_none rfl _ _ _) rfl ?_
    rw [E.out]
    exact ⟨rfl, H.out, Fr.refl _ _ _⟩
end Go.Proofs.YtgefmnnkpffpcaaGreatDoor

/- blocks: the walk. -/
namespace Go.Proofs.YtgefmnnkpffpcaaGreatDoor
open Go.RowKit Go.Maps

def stepB (s : Int × List Bk) (p : Int × Int) : Int × List Bk := (p.1 - 8 + p.2, filled s.1 (p.1 - 8) s.2 ++ [(p.1 - 8, p.2, false)])
def bst (P : Pcs) : Int × List Bk := P.foldl stepB (112, [])
def blocksOf (n : Nat) (P : Pcs) : List Bk := filled (bst P).1 n (bst P).2
theorem bst_snoc (P : Pcs) (p : Int × Int) : bst (P ++ [p]) = stepB (bst P) p := by simp [bst, List.foldl_append]
theorem filled_length (gap e : Int) (l : List Bk) : (filled gap e l).length ≤ l.length + 1 := by
  unfold filled; split <;> simp
theorem bst_take {P : Pcs} {k : Nat} (h : k < P.length) : bst (P.take (k + 1)) = stepB (bst (P.take k)) P[k] := by
  rw [List.take_succ_eq_append_getElem h, bst_snoc]
theorem bst_bounds {n : Nat} {P : Pcs} (hP : Okp n P) : ∀ k, k ≤ P.length → 0 ≤ (bst (P.take k)).1 ∧ (bst (P.take k)).1 ≤ max n 112 ∧ (bst (P.take k)).2.length ≤ 2 * k
  | 0, _ => by simp [bst]; omega
  | k + 1, hk => by
    have ih := bst_bounds hP k (by omega)
    have hp := hP P[k] (List.getElem_mem (by omega))
    rw [bst_take (by omega)]
    unfold stepB
    have := filled_length (bst (P.take k)).1 (P[k].1 - 8) (bst (P.take k)).2
    simp only [List.length_append, List.length_cons, List.length_nil]
    omega

theorem Mp.look1 {w : World} {b : Nat} {P : Pcs} (h : Mp w b P) {k : Int} (h0 : -9223372036854775808 ≤ k) (h1 : k ≤ 9223372036854775807) :
    (Instr.lookup 65 (.map (some b)) (.int .i64 k) false).run Tryz.prog w = .ok (.int .i64 (getP P k)) w := by
  obtain ⟨c, hrun, hc, -⟩ := World.ownsMap.lookup_int h keyed3 Tryz.underlying65 Tryz.underlying3 (Tryz.zeroValue3 _) (keyOf_int_mk Tryz.underlying3 (wf64 h0 h1))
  rw [dat_at] at hc
  simp only [DataW.lit.injEq, Lit.int.injEq, true_and] at hc
  rw [hc]
  exact hrun
theorem getP_at {P : Pcs} (h : Rises P) {k : Nat} (hk : k < P.length) : getP P P[k].1 = P[k].2 := by
  have hm : hasP P P[k].1 = true := by
    unfold hasP; rw [List.any_eq_true]; exact ⟨P[k], List.getElem_mem hk, by simp⟩
  have h1 := getP_mem hm
  obtain ⟨j, hj, e⟩ := List.getElem_of_mem h1
  have hjk : j = k := by
    unfold Rises at h
    rw [List.pairwise_iff_getElem] at h
    rcases Nat.lt_trichotomy j k with hlt | heq | hgt
    · have := h j k hj hk hlt; rw [e] at this; simp at this
    · exact heq
    · have := h k j hk hj hgt; rw [e] at this; simp at this
  subst hjk
  rw [e]
end Go.Proofs.YtgefmnnkpffpcaaGreatDoor

/- blocks: the walk. -/
namespace Go.Proofs.YtgefmnnkpffpcaaGreatDoor
open Go.RowKit Go.Maps

/-- blocks' state behind k keys. -/
structure Bst (w wr : World) (P : Pcs) (kao : Option Addr) (kcap kb base k : Nat) : Prop where
  f : Fl wr (w.heap.size + 1) w.heap.size base (bst (P.take k)).1 (bst (P.take k)).2
  o : wr.ownsRow kb 3 1 (.slice kao P.length kcap) P.length (P.map fun p => .int .i64 p.1)
  k : Kp w wr []
theorem Kp.of_fr {w wr w' : World} {base ap : Nat} (hk : Kp w wr []) (h : Fr wr w' base ap) (hb : w.heap.size ≤ base) (ha : w.heap.size ≤ ap) : Kp w w' [] :=
  ⟨h.os.trans hk.os, h.tape.trans hk.tape, h.output.trans hk.output, Nat.le_trans hk.size h.size, fun k hk' _ => (h.block k (by omega) (by omega)).trans (hk.block k hk' (by simp))⟩

theorem own_keep {w w' : World} {base e s n : Nat} {v : Value} {xs : List Value} (h : w.ownsRow base e s v n xs) (hk : ∀ k, v.ownBlock = some k → w'.heap[k]? = w.heap[k]?) : w'.ownsRow base e s v n xs := by
  refine ⟨h.1, ?_⟩
  rcases h.2 with ⟨rfl, h0⟩ | ⟨g, cap, cur, rfl, x1, x2, x3⟩
  · exact .inl ⟨rfl, h0⟩
  · exact .inr ⟨g, cap, cur, rfl, x1, (hk g rfl).trans x2, x3⟩
theorem Fl.regap {w : World} {gp ap base : Nat} {gap x : Int} {l : List Bk} (h : Fl w gp ap base gap l) : Fl (w.setCell ⟨gp, 0, none⟩ (.int .i64 x)) gp ap base x l := by
  have hb := h.hb
  obtain ⟨v, a1, a2⟩ := h.a
  refine ⟨set_one h.g, ⟨v, ?_, own_keep a2 fun k hk => ?_⟩, hb, by have := h.hw; simp; omega⟩
  · rw [Below.heap_setCell _ _ _ _ (by simp; omega)]; exact a1
  · have := (own_ge a2 k hk).1
    exact Below.heap_setCell _ _ _ _ (by simp; omega)

set_option maxRecDepth 100000 in
set_option maxHeartbeats 4000000 in
theorem blocks_any (w : World) (hb rb mb pb n : Nat) (g : Mem) (c : Int) (P : Pcs) (h : Hp w hb rb mb pb n g c P) (hP : Okp n P) (hl : P.length ≤ 65536) :
    Calls Tryz.prog 92 #[.pointer (some ⟨hb, 0, none⟩)] w fun e w' => ∃ v, e = .returned v ∧ w'.ownsRow w.heap.size 44 3 v (blocksOf n P).length (bcells (blocksOf n P)) ∧ Kp w w' [] := by
  obtain ⟨i0, hi, hz0, hz1, hz2⟩ := info_parts Tryz.info44
  have hlt := h.lt
  have hn := h.nb
  have HL := hid hlt
  have W1 := hid ((Kp.alloc w (.cells #[.slice none 0 0] 38) []).trans (Kp.alloc _ (.cells #[.int .i64 112] 3) []))
  obtain ⟨W2, hW2⟩ : ∃ W2, (w.alloc (.cells #[.slice none 0 0] 38)).alloc (.cells #[.int .i64 112] 3) = W2 := ⟨_, rfl⟩
  have hs2 : W2.heap.size = w.heap.size + 2 := by rw [← hW2]; simp
  have HW2 := hid hW2
  have S2 := hid hs2
  have K2 := hid (show Kp w W2 [] by rw [← hW2]; exact W1.out)
  have H2 := hid (h.same K2.out)
  have HP := hid hP
  have H0 := hid h
  have F2 := hid (show Fl W2 (w.heap.size + 1) w.heap.size (w.heap.size + 2) 112 [] from by
    refine ⟨?_, ⟨.slice none 0 0, ?_, World.ownsRow_nil _ _ _ _⟩, by omega, by omega⟩
    · have := heap_alloc_new (w.alloc (.cells #[.slice none 0 0] 38)) (.cells #[.int .i64 112] 3)
      rw [show (w.alloc (.cells #[.slice none 0 0] 38)).heap.size = w.heap.size + 1 by simp, hW2] at this
      exact this
    · rw [← hW2, Below.heap_alloc _ _ _ (by simp)]
      exact heap_alloc_new w _)
  have q0 := h.c0cell
  have q1 := h.c1cell
  obtain ⟨BL, hBL⟩ : ∃ BL, blocksOf n P = BL := ⟨_, rfl⟩
  rw [hBL]
  have HB := hid hBL
  clear h hP hW2 hs2 hBL
  go_enter Tryz.func92, Tryz.ntmps92
  go_wp2_with (go_at_call 51; go_in)
  rw [HW2.out]
  refine (keys_any pb W2).mono ?_
  rintro e w3 ⟨rfl, hE3⟩
  have K3 := hid (show Kp W2 w3 [] by rw [hE3]; exact Kp.alloc _ _ _)
  rw [hE3]
  have HE3 := hid hE3
  clear hE3
  go_wp2_with fail
  refine (sorted_any pb P W2 H2.out.mp hl).mono ?_
  rintro e w4 ⟨kv, rfl, hown4, hK4⟩
  have hsz4 : w.heap.size + 3 ≤ w4.heap.size := by have := hK4.size; have := S2.out; simp at *; omega
  rw [← HE3.out] at hK4
  have K4 := hid (K3.out.trans hK4)
  have H4 := hid (H2.out.same K4.out)
  have F4 := hid (show Fl w4 (w.heap.size + 1) w.heap.size w4.heap.size 112 [] from
    ⟨(K4.out.block _ (lt_of_block F2.out.g) (by simp)).trans F2.out.g, (by obtain ⟨v, a1, a2⟩ := F2.out.a; exact ⟨v, (K4.out.block _ (lt_of_block a1) (by simp)).trans a1, by
      have e : v = .slice none 0 0 := by
        rcases a2.2 with ⟨e, -⟩ | ⟨gg, cap, cur, rfl, x1, x2, x3⟩
        · exact e
        · have := F2.out.hw; have := S2.out; have := lt_of_block x2; omega
      subst e; exact World.ownsRow_nil _ _ _ _⟩), by omega, Nat.le_refl _⟩)
  have KW := hid (K2.out.trans K4.out)
  obtain ⟨kao, kcap, rfl⟩ := owns_shape hown4
  have O4 := hid hown4
  clear hown4 hK4
  go_wp2_with fail
  go_loopw [20] (fun i wr => ∃ k : Nat, k ≤ P.length ∧ i = .int .i64 k ∧ Hid (Bst w wr P kao kcap (W2.heap.size + 1) w4.heap.size k)) (fun i _ => P.length - (intOf i).toNat)
  case atStart => exact ⟨0, Nat.zero_le _, rfl, ⟨F4.out, O4.out, KW.out⟩⟩
  case round =>
    obtain ⟨k, hk, rfl, hB⟩ := hrel
    obtain ⟨bl, bg, bd⟩ := bst_bounds HP.out k hk
    by_cases hlt' : k < P.length
    · have hltI : (k : Int) < (P.length : Int) := by omega
      have hp := HP.out P[k] (List.getElem_mem hlt')
      obtain ⟨o, ho⟩ : ∃ o, P[k].1 = o := ⟨_, rfl⟩
      obtain ⟨z, hz⟩ : ∃ z, P[k].2 = z := ⟨_, rfl⟩
      have HG := hid (show getP P o = z by rw [← ho, ← hz]; exact getP_at H2.out.mp.rises hlt')
      have ST := hid (show bst (P.take (k + 1)) = (o - 8 + z, filled (bst (P.take k)).1 (o - 8) (bst (P.take k)).2 ++ [(o - 8, z, false)]) by rw [bst_take hlt', ← ho, ← hz]; rfl)
      rw [ho, hz] at hp
      have ho0 : 120 ≤ o ∧ o ≤ 65600 ∧ 16 ≤ z ∧ z ≤ 65536 := by omega
      rcases hB.out.o.2 with ⟨-, h0⟩ | ⟨gg, cap', cur, hvv, hbg, hgg, hnc, hcm, hcs, htake⟩
      · omega
      · simp only [Value.slice.injEq, true_and] at hvv
        obtain ⟨rfl, rfl⟩ := hvv
        have hcl := hB.out.o.cellAt k (by omega)
        rw [List.getElem?_eq_getElem (by simpa using hlt')] at hcl
        have hcl' : wr.cell? ⟨gg, k, none⟩ = some (.int .i64 o) := by rw [hcl]; simp [ho]
        obtain ⟨gap, hgap⟩ : ∃ gap, (bst (P.take k)).1 = gap := ⟨_, rfl⟩
        obtain ⟨l, hll⟩ : ∃ l, (bst (P.take k)).2 = l := ⟨_, rfl⟩
        have FB := hB.out.f
        rw [hgap] at bl bg FB
        rw [hll] at bd FB
        have STE := ST.out
        rw [hgap, hll] at STE
        have ST2 := hid STE
        have F5 := hid FB
        have GG := hid hgg
        have hgne : gg ≠ w.heap.size ∧ gg ≠ w.heap.size + 1 := by have := S2.out; omega
        have HWR := hid (H0.out.same hB.out.k)
        have m1 := HWR.out.c1cell
        have lk := HWR.out.mp.look1 (k := o) (by omega) (by omega)
        rw [HG.out] at lk
        have SK := hid (show ∀ W, Kp wr W [] → W.cell? ⟨hb, 1, none⟩ = some (.map (some pb)) ∧ (Instr.lookup 65 (.map (some pb)) (.int .i64 o) false).run Tryz.prog W = .ok (.int .i64 z) W from fun W hW => ⟨hW.cell m1 (by simp), by
          have := (HWR.out.same hW).mp.look1 (k := o) (by omega) (by omega); rw [HG.out] at this; exact this⟩)
        clear hgap hll FB STE ho hz hcl hgg htake hcs hcm lk m1 ST hp
        go_wp2_with fail
        have w8 : IntKind.i64.wrap (o - 8) = o - 8 := IntWalk.i64_in _ ⟨by omega, by omega⟩
        go_region_held (fun w' => w'.cell? ⟨hb, 1, none⟩ = some (.map (some pb)) ∧ (Instr.lookup 65 (.map (some pb)) (.int .i64 o) false).run Tryz.prog w' = .ok (.int .i64 z) w')
          (exact SK.out _ (Kp.drew _ _))
          (fail)
        have F6 := hid (show Fl wr.drew (w.heap.size + 1) w.heap.size w4.heap.size gap l from ⟨F5.out.g, F5.out.a, F5.out.hb, F5.out.hw⟩)
        go_wp2_with fail
        refine (fill_any _ _ _ _ gap (o - 8) l F6.out (by omega) (by omega) (by omega) (by omega) (by omega)).mono ?_
        rintro e w6 ⟨rfl, hF6, hR6⟩
        have HB6 := hid (show Kp w w6 [] from (hB.out.k.trans (Kp.drew _ _)).of_fr hR6 (by omega) (by omega))
        have F7 := hid hF6
        have R6 := hid hR6
        have HL7 := filled_length gap (o - 8) l
        obtain ⟨l2, hl2⟩ : ∃ l2, filled gap (o - 8) l = l2 := ⟨_, rfl⟩
        have hF7 := hF6
        rw [hl2] at HL7 hF7
        obtain ⟨v, hv, hown⟩ := hF7.a
        have q6 := cell_one hv
        have f6 := free_one hv
        have HV := hid hv
        have HO := hid hown
        have HF := hid hF7
        have L2 := hid hl2
        have hbb := hF7.hb
        have hww := hF7.hw
        obtain ⟨ao, cp, rfl⟩ := owns_shape HO.out
        have hcg := cell_one hF7.g
        have hfg := free_one hF7.g
        have hnea : w.heap.size < w6.heap.size := by omega
        have hneb : w.heap.size + 1 < w6.heap.size := by omega
        clear hF6 hR6 hF7 hv hown hl2 F7 hcl' w8
        go_wp2_with (at_builtin; refine wpList_append_own _ rfl _ _ 38 rfl w4.heap.size 44 i0 (.agg #[.int .i64 0, .int .i64 0, .bool false]) 3 24 Tryz.underlying38 hi hz0 hz1 hz2 rfl (by decide) _ _ _ rfl (HO.out.alloc _) ⟨w6.heap.size, 0, none⟩ 1 1 [.int .i64 (o - 8), .int .i64 z, .bool false] rfl rfl cell3_new (bk_one _ _ _) (by unfold maxLen; omega) (by omega) (by simp; omega) ?_; intro v' w7 hown' hg hnil; obtain ⟨X1, X2, X3⟩ := HF.out.push (b := (o - 8, z, false)) HV.out HO.out hown' hg; have Y1 := hid X1; have Y2 := hid X2; have q7 := cell_one X3; have f7 := free_one X3; obtain ⟨ao', cp', rfl⟩ := owns_shape hown'; have q8 := cell_one X1.g; have f8 := free_one X1.g; clear X1 X2 X3 hnil hown' hg q6 f6)
        have RR := hid (Y1.out.regap (x := o - 8 + z))
        have gl := (own_ge O4.out gg rfl).2
        have KY := HB6.out.of_fr Y2.out (by omega) (Nat.le_refl _)
        refine ⟨⟨k + 1, by omega, by go_num, (⟨?_, ?_, ?_⟩ : Bst _ _ _ _ _ _ _ _)⟩, by simp [intOf]; omega⟩
        · rw [ST2.out, L2.out]; exact RR.out
        · refine own_keep hB.out.o fun j hj => ?_
          simp [Value.ownBlock] at hj
          subst hj
          rw [Below.heap_setCell _ _ _ _ (by simp; omega)]
          exact (Y2.out.block gg gl (by omega)).trans (R6.out.block gg gl (by omega))
        · exact KY.past (Kp.setCell _ ⟨w.heap.size + 1, 0, none⟩ _) (by intro j hj hlt; simp at hj; omega)
    · have hkP : k = P.length := by omega
      have hltI : ¬ (k : Int) < (P.length : Int) := by omega
      have HWR := hid (H0.out.same hB.out.k)
      have m0 := HWR.out.c0cell
      have FB := hB.out.f
      rw [hkP, List.take_length] at FB bl bg bd
      have F5 := hid FB
      have SZ := hid HWR.out.sized
      clear FB hkP
      go_wp2_with fail
      refine SZ.out.mono ?_
      rintro e w' ⟨rfl, hE⟩
      rw [hE]
      clear hE
      go_wp2_with fail
      refine (fill_any wr _ _ _ _ n _ F5.out (by omega) (by omega) (by omega) (by omega) (by omega)).mono ?_
      rintro e w6 ⟨rfl, hF6, hR6⟩
      have HB6 := hid (show Kp w w6 [] from hB.out.k.of_fr hR6 (by omega) (by omega))
      have hF7 : Fl w6 (w.heap.size + 1) w.heap.size w4.heap.size (bst P).1 BL := by rw [← HB.out]; exact hF6
      obtain ⟨v, hv, hown⟩ := hF7.a
      have q6 := cell_one hv
      have HO := hid hown
      obtain ⟨ao, cp, rfl⟩ := owns_shape HO.out
      clear hF6 hR6 hF7 hv hown
      go_wp2
      go_ret
      refine ⟨_, rfl, ?_, HB6.out⟩
      rcases HO.out.2 with ⟨e0, h0⟩ | ⟨g', cap', cur', hv', x1, x2, x3⟩
      · exact ⟨HO.out.1, .inl ⟨e0, h0⟩⟩
      · exact ⟨HO.out.1, .inr ⟨g', cap', cur', hv', by omega, x2, x3⟩⟩
end Go.Proofs.YtgefmnnkpffpcaaGreatDoor
