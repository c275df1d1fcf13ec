/- Check, what is kept while it goes over the blocks: no Go is walked here. -/
import Derived.Test.YtgefmnnkpffpcaaGreatDoorHallq
import Derived.OrdersHeld
namespace Go.Proofs.YtgefmnnkpffpcaaGreatDoor
open Go.RowKit Go.Maps Go.Shelf

/-- What a block's own size word says. -/
def qB (n : Nat) (g : Mem) (b : Bk) : Prop := rd n g b.1 = b.2.1 + (if b.2.2 then 1 else 0) ∧ b.2.1 % 8 = 0 ∧ 16 ≤ b.2.1
def valq {q : Bk → Prop} (l : List (Bq q)) : List Bk := l.map (·.1)
theorem valq_snoc {q : Bk → Prop} (l : List (Bq q)) (x : Bq q) : valq (l ++ [x]) = valq l ++ [x.1] := by simp [valq]
theorem valq_length {q : Bk → Prop} (l : List (Bq q)) : (valq l).length = l.length := by simp [valq]
def lastAt (l : List Bk) : Int := (l.getLast?.map (·.1)).getD 0
theorem lastAt_snoc (l : List Bk) (x : Bk) : lastAt (l ++ [x]) = x.1 := by simp [lastAt]
/-- The free ones of the blocks, each with its class. -/
def freeOf (l : List Bk) : Pcs := l.foldl (fun F b => if b.2.2 then putP F b.1 (cls b.2.1) else F) []
theorem freeOf_snoc (l : List Bk) (x : Bk) : freeOf (l ++ [x]) = if x.2.2 then putP (freeOf l) x.1 (cls x.2.1) else freeOf l := by simp [freeOf, List.foldl_append]
theorem insP_length (x : Int × Int) : ∀ P : Pcs, (insP x P).length = P.length + 1
  | [] => rfl
  | y :: r => by
    unfold insP
    split
    · rfl
    · simp [insP_length x r]
theorem putP_length (P : Pcs) (k v : Int) : (putP P k v).length ≤ P.length + 1 := by
  unfold putP
  rw [insP_length]
  have : (delP P k).length ≤ P.length := List.length_filter_le _ _
  omega
theorem fold_length (l : List Bk) : ∀ F : Pcs, (l.foldl (fun F b => if b.2.2 then putP F b.1 (cls b.2.1) else F) F).length ≤ F.length + l.length := by
  induction l with
  | nil => intro F; simp
  | cons b r ih =>
    intro F
    rw [List.foldl_cons]
    refine Nat.le_trans (ih _) ?_
    simp only [List.length_cons]
    split
    · have := putP_length F b.1 (cls b.2.1); omega
    · omega
theorem freeOf_length (l : List Bk) : (freeOf l).length ≤ l.length := by
  have := fold_length l []
  simpa [freeOf] using this

theorem Kp.toFrom {A B : World} {rows : List Nat} (h : Kp A B rows) {D : Nat} (hr : ∀ k ∈ rows, k < D) : KeepsFrom D A B :=
  ⟨h.size, fun k _ hk ho _ => (h.block k (lt_of_block ho) (fun hm => by have := hr k hm; omega)).trans ho⟩

/-- While Check goes over the blocks: its boxes, its map, the heap. -/
structure Cs (w W : World) (hb rb mb pb n : Nat) (g : Mem) (P : Pcs) (c : Int) (k : Nat) (pr : Int) (F : Pcs) : Prop where
  b1 : W.heap[w.heap.size]? = some (.cells #[.pointer (some ⟨hb, 0, none⟩)] 23 (0, 0))
  b2 : W.heap[w.heap.size + 1]? = some (.cells #[.bool false] 4 (0, 0))
  b3 : W.heap[w.heap.size + 3]? = some (.cells #[.map (some (w.heap.size + 2))] 65 (0, 0))
  b4 : W.heap[w.heap.size + 4]? = some (.cells #[.int .i64 pr] 3 (0, 0))
  mp : Mp W (w.heap.size + 2) F
  hp : ∃ c1, c ≤ c1 ∧ c1 ≤ c + 2 * k ∧ Hp W hb rb mb pb n g c1 P
  kp : Kp w W [rb]
  lt : hb < w.heap.size ∧ rb < w.heap.size ∧ mb < w.heap.size ∧ pb < w.heap.size ∧ 0 < w.heap.size

variable {w A B : World} {hb rb mb pb n : Nat} {g : Mem} {P F : Pcs} {c pr : Int} {k : Nat}
theorem Cs.keep (h : Cs w A hb rb mb pb n g P c k pr F) {rows : List Nat} (hk : Kp A B rows) (hr : ∀ r ∈ rows, w.heap.size + 5 ≤ r) : Cs w B hb rb mb pb n g P c k pr F := by
  have hl := h.lt
  have hn : ∀ i, i < w.heap.size + 5 → i ∉ rows := fun i hi hm => by have := hr i hm; omega
  obtain ⟨c1, x1, x2, x3⟩ := h.hp
  exact ⟨(hk.block _ (lt_of_block h.b1) (hn _ (by omega))).trans h.b1, (hk.block _ (lt_of_block h.b2) (hn _ (by omega))).trans h.b2,
    (hk.block _ (lt_of_block h.b3) (hn _ (by omega))).trans h.b3, (hk.block _ (lt_of_block h.b4) (hn _ (by omega))).trans h.b4,
    h.mp.keep hk (hn _ (by omega)), ⟨c1, x1, x2, x3.keep hk (hn _ (by omega)) (hn _ (by omega)) (hn _ (by omega)) (hn _ (by omega)) (hn _ (by omega))⟩,
    h.kp.past hk (fun i hi hlt => by have := hr i hi; omega), h.lt⟩
theorem Cs.own (h : Cs w A hb rb mb pb n g P c k pr F) {row : Option Nat} (hg : A.grownBy B row) (hr : ∀ r, row = some r → w.heap.size + 5 ≤ r) : Cs w B hb rb mb pb n g P c k pr F := by
  cases row with
  | none => exact h.keep (rows := []) (Kp.grown hg) (by simp)
  | some r => exact h.keep (Kp.grownRow hg) (by simpa using hr r rfl)
theorem Cs.off (h : Cs w A hb rb mb pb n g P c k pr F) : Off hb rb mb pb (w.heap.size + 2) := by
  have := h.lt
  unfold Off
  omega
/-- Behind a store into the map. -/
theorem Cs.remap {F' : Pcs} (h : Cs w A hb rb mb pb n g P c k pr F) (hk : Kp A B [w.heap.size + 2]) (hm : Mp B (w.heap.size + 2) F') : Cs w B hb rb mb pb n g P c k pr F' := by
  have hl := h.lt
  obtain ⟨c1, x1, x2, x3⟩ := h.hp
  exact ⟨(hk.block _ (lt_of_block h.b1) (by simp)).trans h.b1, (hk.block _ (lt_of_block h.b2) (by simp)).trans h.b2,
    (hk.block _ (lt_of_block h.b3) (by simp)).trans h.b3, (hk.block _ (lt_of_block h.b4) (by simp)).trans h.b4,
    hm, ⟨c1, x1, x2, x3.keep hk (by simp; omega) (by simp; omega) (by simp; omega) (by simp; omega) (by simp)⟩,
    h.kp.past hk (fun i hi hlt => by simp at hi; omega), h.lt⟩
/-- Behind a word that was looked at. -/
theorem Cs.word {c1 c2 : Int} {k' : Nat} (h : Cs w A hb rb mb pb n g P c k pr F) (hk : Kp A B [rb]) (hH : Hp B hb rb mb pb n g c2 P) (h1 : c ≤ c1) (h2 : c1 ≤ c2) (h3 : c2 ≤ c + 2 * k') : Cs w B hb rb mb pb n g P c k' pr F := by
  have hl := h.lt
  exact ⟨(hk.block _ (lt_of_block h.b1) (by simp; omega)).trans h.b1, (hk.block _ (lt_of_block h.b2) (by simp; omega)).trans h.b2,
    (hk.block _ (lt_of_block h.b3) (by simp; omega)).trans h.b3, (hk.block _ (lt_of_block h.b4) (by simp; omega)).trans h.b4,
    h.mp.keep hk (by simp; omega), ⟨c2, by omega, h3, hH⟩, h.kp.trans hk, h.lt⟩
/-- Behind a store of where the block begins. -/
theorem Cs.ahead (h : Cs w A hb rb mb pb n g P c k pr F) (x : Int) : Cs w (A.setCell ⟨w.heap.size + 4, 0, none⟩ (.int .i64 x)) hb rb mb pb n g P c k x F := by
  have hl := h.lt
  have hk := Kp.setCell A ⟨w.heap.size + 4, 0, none⟩ (.int .i64 x)
  obtain ⟨c1, x1, x2, x3⟩ := h.hp
  exact ⟨(hk.block _ (lt_of_block h.b1) (by simp)).trans h.b1, (hk.block _ (lt_of_block h.b2) (by simp)).trans h.b2,
    (hk.block _ (lt_of_block h.b3) (by simp)).trans h.b3, set_one h.b4,
    h.mp.keep hk (by simp), ⟨c1, x1, x2, x3.keep hk (by simp; omega) (by simp; omega) (by simp; omega) (by simp; omega) (by simp)⟩,
    h.kp.past hk (fun i hi hlt => by simp at hi; omega), h.lt⟩
theorem Cs.mono {k' : Nat} (h : Cs w A hb rb mb pb n g P c k pr F) (hk : k ≤ k') : Cs w A hb rb mb pb n g P c k' pr F := by
  obtain ⟨c1, x1, x2, x3⟩ := h.hp
  exact ⟨h.b1, h.b2, h.b3, h.b4, h.mp, ⟨c1, x1, by omega, x3⟩, h.kp, h.lt⟩

theorem Cs.new (h : Hp w hb rb mb pb n g c P) (W : World)
    (hW : (((((w.alloc (.cells #[.pointer (some ⟨hb, 0, none⟩)] 23)).alloc (.cells #[.bool false] 4)).alloc (.map #[] 0)).alloc (.cells #[.map (some (w.heap.size + 2))] 65)).alloc (.cells #[.int .i64 0] 3)).alloc (.cells #[.pointer (some ⟨hb, 0, none⟩)] 23) = W) :
    Cs w W hb rb mb pb n g P c 0 0 [] ∧ Kp w W [] ∧ W.heap.size = w.heap.size + 6 ∧ W.cell? ⟨w.heap.size + 5, 0, none⟩ = some (.pointer (some ⟨hb, 0, none⟩)) := by
  obtain ⟨V, hV⟩ : ∃ V, ((((w.alloc (.cells #[.pointer (some ⟨hb, 0, none⟩)] 23)).alloc (.cells #[.bool false] 4)).alloc (.map #[] 0)).alloc (.cells #[.map (some (w.heap.size + 2))] 65)).alloc (.cells #[.int .i64 0] 3) = V := ⟨_, rfl⟩
  obtain ⟨e0, e1, e2, e3, e4, eK, es⟩ := five_new w _ _ _ _ _ V hV
  have hM : Mp V (w.heap.size + 2) [] := by
    have h1 := World.ownsMap_made (H := Unit) ((w.alloc (.cells #[.pointer (some ⟨hb, 0, none⟩)] 23)).alloc (.cells #[.bool false] 4)) Tryz.prog 3 (plainElem Tryz.prog 3)
    have h2 := Mp.of_owns (P := []) h1
    rw [show ((w.alloc (.cells #[.pointer (some ⟨hb, 0, none⟩)] 23)).alloc (.cells #[.bool false] 4)).heap.size = w.heap.size + 2 by simp] at h2
    rw [← hV]
    exact (h2.keep (Kp.alloc _ _ []) (by simp)).keep (Kp.alloc _ _ []) (by simp)
  have hl := h.lt
  have h0 := h.tb.lt
  have hCV : Cs w V hb rb mb pb n g P c 0 0 [] := ⟨e0, e1, e3, e4, hM, ⟨c, by omega, by omega, h.same eK⟩, eK.nil, by omega⟩
  rw [hV] at hW
  subst hW
  refine ⟨hCV.keep (Kp.alloc _ _ []) (by simp), eK.trans (Kp.alloc _ _ []), by simp [es], ?_⟩
  have := cell_new0 (w := V) (v := .pointer (some ⟨hb, 0, none⟩)) (t := 23)
  rwa [es] at this
end Go.Proofs.YtgefmnnkpffpcaaGreatDoor

/- A region that draws, in a round of a loop: what holds of it outside a round holds in one. -/
namespace Go.Proofs.YtgefmnnkpffpcaaGreatDoor

theorem oper_round {P : Program} {o : Oper} {a : Act} {w : World} {K K' : Act → World → Prop} {Q : Exit → Act → World → Prop} (l n : Nat) (hd : ∀ c, o.op ≠ .defer c) (h : ∀ a w, K a w → K' a w)
    (hh : o.wp P a w K Q) : o.wpIn (Fence.wide.inRound l) n P a w K' Q := by
  refine ⟨fun _ _ => trivial, ?_⟩
  have e : o.semAt (Fence.wide.inRound l).round a.eval = execOp a.eval o := Oper.semAt_some l _ o hd
  rw [e]
  unfold Oper.wp at hh
  generalize (execOp a.eval o).run P w = r at *
  cases r with
  | ok x w' =>
    cases x <;> simp only [Oper.upon, Oper.uponIn] at hh ⊢ <;>
      first
        | exact h _ _ hh
        | exact ⟨(fun hs => by cases hs), ((callsIn_wide (n := n - 1)).2 (Calls.mono hh (fun e w'' he => by cases e <;> first | exact h _ _ he | exact he))).inRound l⟩
        | exact ⟨(fun hs => by cases hs), fun c cs _ => let ⟨v, w2, r, s⟩ := hh c cs; ⟨v, w2, h _ _ r, stepsIn_wide.2 s⟩⟩
  | halt x w' => cases x <;> simp only [Oper.upon, Oper.uponIn] at hh ⊢ <;> exact hh

theorem any_round {P : Program} {md : Region.Mode} {ops : Array Oper} {Q : Exit → Act → World → Prop} (l n : Nat) (hd : ∀ (i : Nat) (o : Oper), ops[i]? = some o → ∀ c, o.op ≠ .defer c) (hq : ¬ LetsOut Q) :
    ∀ (fuel : Nat) (listed : Array Bool) (a : Act) (w : World), wpAny P md ops Q fuel listed a w → wpAnyIn (Fence.wide.inRound l) n P md ops Q fuel listed a w
  | 0, _, _, _, h => h
  | fuel + 1, listed, a, w, h => by
    refine ⟨h.1, fun i hi => ?_⟩
    have hh := h.2 i hi
    unfold wpOp at hh
    unfold wpOpIn
    split
    · rename_i ho
      simp only [ho] at hh
      exact any_round l n hd hq fuel _ _ _ hh
    · rename_i o ho
      simp only [ho] at hh
      split
      · rename_i hw
        simp only [hw, if_true] at hh
        rcases hh with hh | ⟨-, hh⟩
        · exact oper_round l n (hd i o ho) (any_round l n hd hq fuel _) hh
        · exact absurd hh hq
      · rename_i hw
        simp only [hw] at hh
        exact ⟨fun _ _ => trivial, any_round l n hd hq fuel _ _ _ hh⟩

theorem region_round {P : Program} {ops : Array Oper} {Q : Exit → Act → World → Prop} {S : World → Prop} {id : Nat} {a : Act} {w : World} (l n : Nat) (hm : P.follows .mixedOrders = true) (hd : ∀ (i : Nat) (o : Oper), ops[i]? = some o → ∀ c, o.op ≠ .defer c) (hq : ¬ LetsOut Q)
    (h : wpAnyH P .any ops Q S ops.size (Array.replicate ops.size false) a w.drew) : (Code.region id ops true).wpIn (Fence.wide.inRound l) n P Q a w :=
  wpIn_region_any hm (any_round l n hd hq _ _ _ _ (wpAny_of_held _ _ _ _ h))
end Go.Proofs.YtgefmnnkpffpcaaGreatDoor
