/- Check, what is kept while it goes over the blocks: no Go is walked here. -/
import Derived.Test.YtgefmnnkpffpcaaGreatDoorHrepChkJ
import Derived.Test.YtgefmnnkpffpcaaGreatDoorHrepAllocJ
import Derived.Test.YtgefmnnkpffpcaaGreatDoorHrepCpJ
import Derived.Test.YtgefmnnkpffpcaaGreatDoorHrepGrowJ
import Derived.Test.YtgefmnnkpffpcaaGreatDoorHnumJ
namespace Go.Proofs.YtgefmnnkpffpcaaGreatDoor
open Go.RowKit Go.Maps Go.Shelf

/-- What a block's own size word says. -/
def qB (n : Nat) (g : Mem) (b : Bk) : Prop := rd n g b.1 = b.2.1 + (if b.2.2 then 1 else 0) ∧ b.2.1 % 8 = 0 ∧ 16 ≤ b.2.1
def valq {q : Bk → Prop} (l : List (Bq q)) : List Bk := l.map (·.1)
theorem valq_snoc {q : Bk → Prop} (l : List (Bq q)) (x : Bq q) : valq (l ++ [x]) = valq l ++ [x.1] := by simp [valq]
theorem valq_length {q : Bk → Prop} (l : List (Bq q)) : (valq l).length = l.length := by simp [valq]
def lastAt (l : List Bk) : Int := (l.getLast?.map (·.1)).getD 0
theorem lastAt_snoc (l : List Bk) (x : Bk) : lastAt (l ++ [x]) = x.1 := by simp [lastAt]
/-- The free ones of the blocks, each with its class. -/
def freeOf (l : List Bk) : Pcs := l.foldl (fun F b => if b.2.2 then putP F b.1 (cls b.2.1) else F) []
theorem freeOf_snoc (l : List Bk) (x : Bk) : freeOf (l ++ [x]) = if x.2.2 then putP (freeOf l) x.1 (cls x.2.1) else freeOf l := by simp [freeOf, List.foldl_append]
theorem insP_length (x : Int × Int) : ∀ P : Pcs, (insP x P).length = P.length + 1
  | [] => rfl
  | y :: r => by
    unfold insP
    split
    · rfl
    · simp [insP_length x r]
theorem putP_length (P : Pcs) (k v : Int) : (putP P k v).length ≤ P.length + 1 := by
  unfold putP
  rw [insP_length]
  have : (delP P k).length ≤ P.length := List.length_filter_le _ _
  omega
theorem fold_length (l : List Bk) : ∀ F : Pcs, (l.foldl (fun F b => if b.2.2 then putP F b.1 (cls b.2.1) else F) F).length ≤ F.length + l.length := by
  induction l with
  | nil => intro F; simp
  | cons b r ih =>
    intro F
    rw [List.foldl_cons]
    refine Nat.le_trans (ih _) ?_
    simp only [List.length_cons]
    split
    · have := putP_length F b.1 (cls b.2.1); omega
    · omega
theorem freeOf_length (l : List Bk) : (freeOf l).length ≤ l.length := by
  have := fold_length l []
  simpa [freeOf] using this

theorem Kp.toFrom {A B : World} {rows : List Nat} (h : Kp A B rows) {D : Nat} (hr : ∀ k ∈ rows, k < D) : KeepsFrom D A B :=
  ⟨h.size, fun k _ hk ho _ => (h.block k (lt_of_block ho) (fun hm => by have := hr k hm; omega)).trans ho⟩

/-- While Check goes over the blocks: its boxes, its map, the heap. -/
structure Cs (w W : World) (hb rb mb pb n : Nat) (g : Mem) (P : Pcs) (c : Int) (k : Nat) (pr : Int) (F : Pcs) : Prop where
  b1 : W.heap[w.heap.size]? = some (.cells #[.pointer (some ⟨hb, 0, none⟩)] 23 (0, 0))
  b2 : W.heap[w.heap.size + 1]? = some (.cells #[.bool false] 4 (0, 0))
  b3 : W.heap[w.heap.size + 3]? = some (.cells #[.map (some (w.heap.size + 2))] 65 (0, 0))
  b4 : W.heap[w.heap.size + 4]? = some (.cells #[.int .i64 pr] 3 (0, 0))
  mp : Mp W (w.heap.size + 2) F
  hp : ∃ c1, c ≤ c1 ∧ c1 ≤ c + 2 * k ∧ Hp W hb rb mb pb n g c1 P
  kp : Kp w W [rb]
  lt : hb < w.heap.size ∧ rb < w.heap.size ∧ mb < w.heap.size ∧ pb < w.heap.size ∧ 0 < w.heap.size

variable {w A B : World} {hb rb mb pb n : Nat} {g : Mem} {P F : Pcs} {c pr : Int} {k : Nat}
theorem Cs.keep (h : Cs w A hb rb mb pb n g P c k pr F) {rows : List Nat} (hk : Kp A B rows) (hr : ∀ r ∈ rows, w.heap.size + 5 ≤ r) : Cs w B hb rb mb pb n g P c k pr F := by
  have hl := h.lt
  have hn : ∀ i, i < w.heap.size + 5 → i ∉ rows := fun i hi hm => by have := hr i hm; omega
  obtain ⟨c1, x1, x2, x3⟩ := h.hp
  exact ⟨(hk.block _ (lt_of_block h.b1) (hn _ (by omega))).trans h.b1, (hk.block _ (lt_of_block h.b2) (hn _ (by omega))).trans h.b2,
    (hk.block _ (lt_of_block h.b3) (hn _ (by omega))).trans h.b3, (hk.block _ (lt_of_block h.b4) (hn _ (by omega))).trans h.b4,
    h.mp.keep hk (hn _ (by omega)), ⟨c1, x1, x2, x3.keep hk (hn _ (by omega)) (hn _ (by omega)) (hn _ (by omega)) (hn _ (by omega)) (hn _ (by omega))⟩,
    h.kp.past hk (fun i hi hlt => by have := hr i hi; omega), h.lt⟩
theorem Cs.own (h : Cs w A hb rb mb pb n g P c k pr F) {row : Option Nat} (hg : A.grownBy B row) (hr : ∀ r, row = some r → w.heap.size + 5 ≤ r) : Cs w B hb rb mb pb n g P c k pr F := by
  cases row with
  | none => exact h.keep (rows := []) (Kp.grown hg) (by simp)
  | some r => exact h.keep (Kp.grownRow hg) (by simpa using hr r rfl)
theorem Cs.off (h : Cs w A hb rb mb pb n g P c k pr F) : Off hb rb mb pb (w.heap.size + 2) := by
  have := h.lt
  unfold Off
  omega
/-- Behind a store into the map. -/
theorem Cs.remap {F' : Pcs} (h : Cs w A hb rb mb pb n g P c k pr F) (hk : Kp A B [w.heap.size + 2]) (hm : Mp B (w.heap.size + 2) F') : Cs w B hb rb mb pb n g P c k pr F' := by
  have hl := h.lt
  obtain ⟨c1, x1, x2, x3⟩ := h.hp
  exact ⟨(hk.block _ (lt_of_block h.b1) (by simp)).trans h.b1, (hk.block _ (lt_of_block h.b2) (by simp)).trans h.b2,
    (hk.block _ (lt_of_block h.b3) (by simp)).trans h.b3, (hk.block _ (lt_of_block h.b4) (by simp)).trans h.b4,
    hm, ⟨c1, x1, x2, x3.keep hk (by simp; omega) (by simp; omega) (by simp; omega) (by simp; omega) (by simp)⟩,
    h.kp.past hk (fun i hi hlt => by simp at hi; omega), h.lt⟩
/-- Behind a word that was looked at. -/
theorem Cs.word {c1 c2 : Int} {k' : Nat} (h : Cs w A hb rb mb pb n g P c k pr F) (hk : Kp A B [rb]) (hH : Hp B hb rb mb pb n g c2 P) (h1 : c ≤ c1) (h2 : c1 ≤ c2) (h3 : c2 ≤ c + 2 * k') : Cs w B hb rb mb pb n g P c k' pr F := by
  have hl := h.lt
  exact ⟨(hk.block _ (lt_of_block h.b1) (by simp; omega)).trans h.b1, (hk.block _ (lt_of_block h.b2) (by simp; omega)).trans h.b2,
    (hk.block _ (lt_of_block h.b3) (by simp; omega)).trans h.b3, (hk.block _ (lt_of_block h.b4) (by simp; omega)).trans h.b4,
    h.mp.keep hk (by simp; omega), ⟨c2, by omega, h3, hH⟩, h.kp.trans hk, h.lt⟩
/-- Behind a store of where the block begins. -/
theorem Cs.ahead (h : Cs w A hb rb mb pb n g P c k pr F) (x : Int) : Cs w (A.setCell ⟨w.heap.size + 4, 0, none⟩ (.int .i64 x)) hb rb mb pb n g P c k x F := by
  have hl := h.lt
  have hk := Kp.setCell A ⟨w.heap.size + 4, 0, none⟩ (.int .i64 x)
  obtain ⟨c1, x1, x2, x3⟩ := h.hp
  exact ⟨(hk.block _ (lt_of_block h.b1) (by simp)).trans h.b1, (hk.block _ (lt_of_block h.b2) (by simp)).trans h.b2,
    (hk.block _ (lt_of_block h.b3) (by simp)).trans h.b3, set_one h.b4,
    h.mp.keep hk (by simp), ⟨c1, x1, x2, x3.keep hk (by simp; omega) (by simp; omega) (by simp; omega) (by simp; omega) (by simp)⟩,
    h.kp.past hk (fun i hi hlt => by simp at hi; omega), h.lt⟩
theorem Cs.mono {k' : Nat} (h : Cs w A hb rb mb pb n g P c k pr F) (hk : k ≤ k') : Cs w A hb rb mb pb n g P c k' pr F := by
  obtain ⟨c1, x1, x2, x3⟩ := h.hp
  exact ⟨h.b1, h.b2, h.b3, h.b4, h.mp, ⟨c1, x1, by omega, x3⟩, h.kp, h.lt⟩

theorem Cs.new (h : Hp w hb rb mb pb n g c P) (W : World)
    (hW : (((((w.alloc (.cells #[.pointer (some ⟨hb, 0, none⟩)] 23)).alloc (.cells #[.bool false] 4)).alloc (.map #[] 0)).alloc (.cells #[.map (some (w.heap.size + 2))] 65)).alloc (.cells #[.int .i64 0] 3)).alloc (.cells #[.pointer (some ⟨hb, 0, none⟩)] 23) = W) :
    Cs w W hb rb mb pb n g P c 0 0 [] ∧ Kp w W [] ∧ W.heap.size = w.heap.size + 6 ∧ W.cell? ⟨w.heap.size + 5, 0, none⟩ = some (.pointer (some ⟨hb, 0, none⟩)) := by
  obtain ⟨V, hV⟩ : ∃ V, ((((w.alloc (.cells #[.pointer (some ⟨hb, 0, none⟩)] 23)).alloc (.cells #[.bool false] 4)).alloc (.map #[] 0)).alloc (.cells #[.map (some (w.heap.size + 2))] 65)).alloc (.cells #[.int .i64 0] 3) = V := ⟨_, rfl⟩
  obtain ⟨e0, e1, e2, e3, e4, eK, es⟩ := five_new w _ _ _ _ _ V hV
  have hM : Mp V (w.heap.size + 2) [] := by
    have h1 := World.ownsMap_made (H := Unit) ((w.alloc (.cells #[.pointer (some ⟨hb, 0, none⟩)] 23)).alloc (.cells #[.bool false] 4)) Tryz.prog 3 (plainElem Tryz.prog 3)
    have h2 := Mp.of_owns (P := []) h1
    rw [show ((w.alloc (.cells #[.pointer (some ⟨hb, 0, none⟩)] 23)).alloc (.cells #[.bool false] 4)).heap.size = w.heap.size + 2 by simp] at h2
    rw [← hV]
    exact (h2.keep (Kp.alloc _ _ []) (by simp)).keep (Kp.alloc _ _ []) (by simp)
  have hl := h.lt
  have h0 := h.tb.lt
  have hCV : Cs w V hb rb mb pb n g P c 0 0 [] := ⟨e0, e1, e3, e4, hM, ⟨c, by omega, by omega, h.same eK⟩, eK.nil, by omega⟩
  rw [hV] at hW
  subst hW
  refine ⟨hCV.keep (Kp.alloc _ _ []) (by simp), eK.trans (Kp.alloc _ _ []), by simp [es], ?_⟩
  have := cell_new0 (w := V) (v := .pointer (some ⟨hb, 0, none⟩)) (t := 23)
  rwa [es] at this
end Go.Proofs.YtgefmnnkpffpcaaGreatDoor

/- What Check asks of the lists holds. No Go is walked here. -/
namespace Go.Proofs.YtgefmnnkpffpcaaGreatDoor

theorem mem_put {M : Pcs} {k v : Int} {q : Int × Int} : q ∈ putP M k v ↔ q = (k, v) ∨ (q ∈ M ∧ q.1 ≠ k) := by
  unfold putP
  rw [mem_ins, mem_del]
theorem free_fold {n : Int} {q : Int × Int} : ∀ (L : List Bl) (a : Int) (M : Pcs), contig a L n → (∀ p ∈ M, p.1 < a) →
    (q ∈ L.foldl (fun F b => if b.2.2 then putP F b.1 (cls b.2.1) else F) M ↔ q ∈ M ∨ ∃ z, (q.1, z, true) ∈ L ∧ q.2 = cls z)
  | [], a, M, _, _ => by simp
  | (b, z, f) :: r, a, M, h, hM => by
    obtain ⟨rfl, h1, h2, h3⟩ := h
    rw [List.foldl_cons]
    cases f with
    | false =>
      rw [show (if (b, z, false).2.2 = true then putP M (b, z, false).1 (cls (b, z, false).2.1) else M) = M from rfl, free_fold r (b + z) M h3 (fun p hp => by have := hM p hp; omega)]
      constructor
      · rintro (q | ⟨u, hu, e⟩)
        · exact .inl q
        · exact .inr ⟨u, by simp [hu], e⟩
      · rintro (q | ⟨u, hu, e⟩)
        · exact .inl q
        · rcases List.mem_cons.1 hu with w | w
          · simp at w
          · exact .inr ⟨u, w, e⟩
    | true =>
      rw [show (if (b, z, true).2.2 = true then putP M (b, z, true).1 (cls (b, z, true).2.1) else M) = putP M b (cls z) from rfl, free_fold r (b + z) (putP M b (cls z)) h3 (fun p hp => by
        rcases mem_put.1 hp with w | w
        · rw [w]; simp only; omega
        · have := hM p w.1; omega)]
      rw [mem_put]
      constructor
      · rintro ((q | q) | ⟨u, hu, e⟩)
        · right; rw [q]; exact ⟨z, by simp, rfl⟩
        · exact .inl q.1
        · exact .inr ⟨u, by simp [hu], e⟩
      · rintro (q | ⟨u, hu, e⟩)
        · exact .inl (.inr ⟨q, by have := hM _ q; omega⟩)
        · rcases List.mem_cons.1 hu with w | w
          · simp only [Prod.mk.injEq, and_true] at w
            left; left
            obtain ⟨q1, q2⟩ := q
            simp only at w e ⊢
            rw [e, w.1, w.2]
          · exact .inr ⟨u, w, e⟩
theorem mem_freeOf {n : Int} {L : List Bl} (h : contig 112 L n) {q : Int × Int} : q ∈ freeOf L ↔ ∃ z, (q.1, z, true) ∈ L ∧ q.2 = cls z := by
  have := free_fold (q := q) L 112 [] h (fun p hp => by cases hp)
  simpa [freeOf] using this
theorem get_of {M : Pcs} {x v : Int} (h : (x, v) ∈ M) (hu : ∀ q ∈ M, q.1 = x → q.2 = v) : hasP M x = true ∧ getP M x = v := by
  have hh : hasP M x = true := by
    unfold hasP
    rw [List.any_eq_true]
    exact ⟨(x, v), h, by simp⟩
  refine ⟨hh, ?_⟩
  unfold getP
  cases e : M.find? (fun p => p.1 == x) with
  | none =>
    rw [List.find?_eq_none] at e
    exact absurd (by simp) (e (x, v) h)
  | some p =>
    have h1 := List.mem_of_find?_eq_some e
    have h2 := List.find?_some e
    simp only [beq_iff_eq] at h2
    exact hu p h1 h2
theorem chk_done {n : Nat} {g : Mem} {L : List Bl} {F : Nat → List Int} (h : Rep n g L F (fun _ => False)) {K : Nat} (hK : ∀ c, c < 24 → (F c).length ≤ K) :
    ∃ S' : Nat, chkA n g K 24 0 0 (freeOf L) = some (S', []) ∧ g 0 = S' := by
  have hm : ∀ c, 0 ≤ c → c < 24 → ∀ x ∈ F c, hasP (freeOf L) x = true ∧ getP (freeOf L) x = c := fun c _ hc x hx => by
    obtain ⟨z, hz, e⟩ := h.mem hc hx
    refine get_of ((mem_freeOf h.ct).2 ⟨z, hz, e.symm⟩) (fun q hq eq => ?_)
    obtain ⟨u, hu, e2⟩ := (mem_freeOf h.ct).1 hq
    rw [eq] at hu
    have := contig_inj h.ct hu hz rfl
    simp only [Prod.mk.injEq, true_and, and_true] at this
    rw [e2, this, e]
  obtain ⟨S', M', e1, e2, e3⟩ := chk_all h hK 24 0 0 (freeOf L) rfl hm
  have hM : M' = [] := by
    cases M' with
    | nil => rfl
    | cons q r =>
      have hq := (e2 q).1 (by simp)
      obtain ⟨z, hz, -⟩ := (mem_freeOf h.ct).1 hq.1
      have mz := h.blk hz
      simp only at mz
      obtain ⟨k, hk, hc⟩ := cls_bd (z := z) (by omega) (by have := h.nn; omega)
      exact absurd ((h.mb k hk q.1).2 ⟨fun w => w, z, hz, hc⟩) (hq.2 k (by omega) hk)
  subst hM
  refine ⟨S', e1, ?_⟩
  obtain ⟨y, hy, hy2, hb⟩ := h.bt
  rw [hy]
  congr 1
  apply Nat.eq_of_testBit_eq
  intro b
  rw [e3 b]
  by_cases h24 : b < 24
  · rw [hb b h24, decide_eq_true (show 0 ≤ b ∧ b < 24 by omega)]; simp
  · rw [decide_eq_false (show ¬ (0 ≤ b ∧ b < 24) by omega)]
    simp
    exact Nat.testBit_lt_two_pow (Nat.lt_of_lt_of_le hy2 (Nat.pow_le_pow_right (by decide) (by omega)))
end Go.Proofs.YtgefmnnkpffpcaaGreatDoor

/- The blocks that All tells are the blocks. No Go is walked here. -/
namespace Go.Proofs.YtgefmnnkpffpcaaGreatDoor

theorem blocks_from {n : Nat} : ∀ (L : List Bl) (a : Int) (acc : List Bk), contig a L n → nf L → filled ((piecesOf L).foldl stepB (a, acc)).1 n ((piecesOf L).foldl stepB (a, acc)).2 = acc ++ L
  | [], a, acc, h, _ => by
    have : a = n := h
    show filled a n acc = acc ++ []
    unfold filled
    rw [if_neg (by omega)]; simp
  | (b, z, false) :: r, a, acc, h, hn => by
    obtain ⟨rfl, h1, h2, h3⟩ := h
    have ih := blocks_from r (b + z) (acc ++ [(b, z, false)]) h3 (nf_tail hn)
    have e : stepB (b, acc) (b + 8, z) = (b + z, acc ++ [(b, z, false)]) := by
      unfold stepB filled
      simp only
      rw [show b + 8 - 8 = b by omega, if_neg (by omega)]
    show filled ((piecesOf r).foldl stepB (stepB (b, acc) (b + 8, z))).1 n ((piecesOf r).foldl stepB (stepB (b, acc) (b + 8, z))).2 = _
    rw [e, ih]; simp
  | [(b, z, true)], a, acc, h, hn => by
    obtain ⟨rfl, h1, h2, h3⟩ := h
    have h3' : b + z = n := h3
    show filled b n acc = _
    unfold filled
    rw [if_pos (by omega), show (n : Int) - b = z by omega]
  | (b, z, true) :: (d, w, false) :: r, a, acc, h, hn => by
    obtain ⟨rfl, h1, h2, h3⟩ := h
    have ih := blocks_from ((d, w, false) :: r) (b + z) (acc ++ [(b, z, true)]) h3 (nf_tail hn)
    obtain ⟨h4, h5, h6, h7⟩ := h3
    have e : stepB (b, acc) (d + 8, w) = stepB (b + z, acc ++ [(b, z, true)]) (d + 8, w) := by
      unfold stepB filled
      simp only
      rw [show d + 8 - 8 = d by omega, if_pos (show b < d by omega), if_neg (show ¬ b + z < d by omega), show d - b = z by omega]
    show filled ((piecesOf r).foldl stepB (stepB (b, acc) (d + 8, w))).1 n ((piecesOf r).foldl stepB (stepB (b, acc) (d + 8, w))).2 = _
    rw [e]
    refine Eq.trans ih ?_
    simp
  | (b, z, true) :: (d, w, true) :: r, a, acc, h, hn => absurd ⟨rfl, rfl⟩ hn.1
theorem blocks_of {n : Nat} {L : List Bl} (h : contig 112 L n) (hn : nf L) : blocksOf n (piecesOf L) = L := blocks_from L 112 [] h hn
end Go.Proofs.YtgefmnnkpffpcaaGreatDoor

/- The reference's numbers: power, class, need, may. -/
namespace Go.Proofs.YtgefmnnkpffpcaaGreatDoor
open Go.RowKit Go.Maps

set_option maxRecDepth 100000 in
theorem rmay_any (w : World) (m : Int) : Calls Tryz.prog 77 #[.int .i64 m] w fun e w' => e = .returned (.bool (mayB m)) ∧ w' = w := by
  unfold mayB
  by_cases h1 : 1 ≤ m
  · by_cases h2 : m ≤ 65536
    · rw [decide_eq_true ⟨h1, h2⟩]
      go_enter Tryz.func77, Tryz.ntmps77
      go_wp2
      go_ret
      exact ⟨rfl, rfl⟩
    · rw [decide_eq_false (by omega)]
      have t2 : decide (m ≤ 65536) = false := decide_eq_false h2
      go_enter Tryz.func77, Tryz.ntmps77
      go_wp2
      go_ret
      exact ⟨rfl, rfl⟩
  · rw [decide_eq_false (by omega)]
    go_enter Tryz.func77, Tryz.ntmps77
    go_wp2
    go_ret
    exact ⟨rfl, rfl⟩
set_option maxRecDepth 100000 in
theorem rneed_any (w : World) (m : Int) (h1 : 1 ≤ m) (h2 : m ≤ 65536) : Calls Tryz.prog 79 #[.int .i64 m] w fun e w' => e = .returned (.int .i64 (needed m)) ∧ w' = w := by
  have E := hid (show max 16 ((m + 7) / 8 * 8 + 8) = needed m by unfold needed; omega)
  go_enter Tryz.func79, Tryz.ntmps79
  go_wp2
  rw [E.out]
  go_ret
  exact ⟨rfl, rfl⟩
set_option maxRecDepth 100000 in
theorem rpower_any (w : World) (z : Int) (h1 : 1 ≤ z) (h2 : z ≤ 1048576) : Calls Tryz.prog 112 #[.int .i64 z] w fun e w' => e = .returned (.tuple #[.int .i64 (2 ^ lg z), .int .i64 (lg z)]) ∧ w' = w := by
  go_enter Tryz.func112, Tryz.ntmps112
  go_wp2_with fail
  go_loopw [4, 5] (fun v4 v5 wr => ∃ (k : Nat) (p : Int), v4 = .int .i64 p ∧ v5 = .int .i64 k ∧ wr = w ∧ p ≤ z ∧ 1 ≤ p ∧ (k : Int) < p ∧ Hid (p = 2 ^ k)) (fun v4 _ _ => (z - intOf v4).toNat)
  case atStart => exact ⟨0, 1, rfl, rfl, rfl, h1, by decide, by decide, rfl⟩
  case round =>
    obtain ⟨k, p, rfl, rfl, rfl, hp1, hp2, hp3, hpk⟩ := hrel
    by_cases hlt : p ≤ z / 2
    · go_wp2
      go_roundw
      case rel => exact ⟨k + 1, p * 2, rfl, by simp, trivial, by omega, by omega, by omega, hid (by rw [hpk.out, Int.pow_succ])⟩
      case measure => simp [intOf]; omega
    · have e := pow_stop (z := z) (f := k) (by rw [← hpk.out]; exact hp1) (by rw [← hpk.out]; exact hlt)
      go_wp2
      go_ret2
      refine ⟨?_, rfl⟩
      rw [← e, ← hpk.out]
      rfl
set_option maxRecDepth 100000 in
theorem rclass_any (w : World) (z : Int) (h1 : 16 ≤ z) (h2 : z ≤ 1048576) : Calls Tryz.prog 76 #[.int .i64 z] w fun e w' => e = .returned (.int .i64 (cls z)) ∧ w' = w := by
  have hq := lg_pow (z := z) (by omega)
  have hl : lg z < 21 := lg_lt (by omega) (by omega) (by decide)
  have hc := cls_ref (z := z) (by omega)
  obtain ⟨p, hp⟩ : ∃ p : Int, (2 : Int) ^ lg z = p := ⟨_, rfl⟩
  rw [hp] at hq hc
  have C := hid hc
  have HP := hid hp
  clear hc hp
  go_enter Tryz.func76, Tryz.ntmps76
  go_wp2_with fail
  refine (rpower_any w z (by omega) h2).mono ?_
  rintro e w1 ⟨rfl, rfl⟩
  rw [HP.out]
  by_cases hlt : p + p / 2 ≤ z
  · have E := hid (show cls z = 2 * ((lg z : Int) - 4) + 1 by rw [C.out, if_pos hlt])
    go_wp2
    go_ret
    exact ⟨by rw [E.out]; rfl, rfl⟩
  · have E := hid (show cls z = 2 * ((lg z : Int) - 4) by rw [C.out, if_neg hlt])
    go_wp2
    go_ret
    exact ⟨by rw [E.out]; rfl, rfl⟩
end Go.Proofs.YtgefmnnkpffpcaaGreatDoor
