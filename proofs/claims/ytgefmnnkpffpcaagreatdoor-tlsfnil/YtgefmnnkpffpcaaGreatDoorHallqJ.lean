/- All, once more: its blocks bear a property. -/
import Derived.Test.YtgefmnnkpffpcaaGreatDoorHcheck1J
namespace Go.Proofs.YtgefmnnkpffpcaaGreatDoor
open Go.RowKit Go.Maps Go.Shelf
attribute [local go_sem] Oper.semAt_some

/-- A block of bounded numbers that bears a property. -/
abbrev Bq (q : Bk → Prop) := { b : Bk // (0 ≤ b.1 ∧ b.1 ≤ 1000000 ∧ 0 ≤ b.2.1 ∧ b.2.1 ≤ 1000000) ∧ q b }

set_option maxRecDepth 100000 in
set_option maxHeartbeats 2000000 in
theorem all1_q (q : Bk → Prop) (n : Nat) (hn : 1 ≤ n) (l D bx hb rb mb pb m : Nat) (g : Mem) (c : Int) (P : Pcs) (BL : List (Bq q)) (hBL : BL.map (·.1) = blocksOf m P) (J Jx : List (Bq q) → World → Prop) (W : World) (hH : Hp W hb rb mb pb m g c P) (hP : Okp m P) (hl : P.length ≤ 65536) (hD : D ≤ W.heap.size)
    (hbx : W.cell? ⟨bx, 0, none⟩ = some (.pointer (some ⟨hb, 0, none⟩))) (hJ : AbidesFrom W.heap.size J)
    (hY : ∀ pre x W1, J pre W1 → pre.length < BL.length → YieldAt Fence.wide (n - 1) Tryz.prog l #[bval x.1] W1 fun e W' =>
      (e = .returned (.bool true) ∧ J (pre ++ [x]) W' ∧ Kc D W1 W') ∨ (e = .returned (.bool false) ∧ Jx (pre ++ [x]) W'))
    (h0 : J [] W) :
    CallsIn Fence.wide n Tryz.prog 91 #[.func (.yield l) #[] #[], .pointer (some ⟨bx, 0, none⟩)] W fun e W' => (∃ v, e = .returned v) ∧ ((∃ xs, xs = BL ∧ J xs W') ∨ (∃ pre, pre <+: BL ∧ Jx pre W')) := by
  have cB := (callsIn_wide (n := n - 1)).2 (blocks_any W hb rb mb pb m g c P hH hP hl)
  have HH := hid hH
  have HB := hid hBL
  have HJ := hid hJ
  have HY := hid hY
  have H0 := hid h0
  have hlen := congrArg List.length hBL
  simp only [List.length_map] at hlen
  have HLEN := hid hlen
  have hf92 : Fence.wide.fn 92 := trivial
  have hbl : BL.length ≤ 131073 := by
    rw [hlen]
    have h1 := bst_bounds hP P.length (Nat.le_refl _)
    rw [List.take_length] at h1
    have h2 := filled_length (bst P).1 m (bst P).2
    unfold blocksOf
    omega
  clear hH hBL hJ hY h0 hlen
  refine callsIn_of_wp Tryz.func91 rfl trivial ?_ rfl
  simp only [Tryz.ntmps91, List.size_toArray, List.length_cons, List.length_nil, Nat.reduceAdd, Nat.reduceSub, Array.replicate_succ, Array.replicate_zero, List.push_toArray, List.append_toArray, List.nil_append, List.cons_append]
  gi_wp2_with (gi_at_call 92; refine cB.mono ?_; rintro e w1 ⟨v, rfl, hown, hK⟩; obtain ⟨ao, cp, rfl⟩ := owns_shape hown; have O1 := hid hown; have K1 := hid hK; clear hown hK)
  gi_loopw [8] (fun i wr => ∃ k : Nat, k ≤ BL.length ∧ i = .int .i64 k ∧ Hid (J (BL.take k) wr) ∧ Hid (wr.ownsRow W.heap.size 44 3 (.slice ao (blocksOf m P).length cp) (blocksOf m P).length (bcells (blocksOf m P))))
    (fun i _ => BL.length - (intOf i).toNat)
  case atStart => exact ⟨0, Nat.zero_le _, rfl, HJ.out _ _ _ none H0.out K1.out.toGrownNone (by simp), O1.out⟩
  case round =>
    obtain ⟨k, hk, rfl, hJs, hO⟩ := hrel
    have hN := HLEN.out
    by_cases hlt : k < BL.length
    · have hltI : (k : Int) < ((blocksOf m P).length : Int) := by omega
      have hx : (blocksOf m P)[k]'(by omega) = BL[k].1 := by
        have := HB.out
        simp only [← this, List.getElem_map]
      obtain ⟨x, hxx⟩ : ∃ x, BL[k] = x := ⟨_, rfl⟩
      rw [hxx] at hx
      rcases hO.out.2 with ⟨-, hz⟩ | ⟨gg, cap', cur, hvv, hbg, hgg, hnc, hcm, hcs, htake⟩
      · omega
      · simp only [Value.slice.injEq, true_and] at hvv
        obtain ⟨rfl, rfl⟩ := hvv
        have hcl := bcells_at (blocksOf m P) k (by omega)
        rw [hx] at hcl
        have c0 := hO.out.cellAt (k * 3) (by omega)
        have c1 := hO.out.cellAt (k * 3 + 1) (by omega)
        have c2 := hO.out.cellAt (k * 3 + 2) (by omega)
        rw [hcl.1] at c0
        rw [hcl.2.1] at c1
        rw [hcl.2.2] at c2
        have TK := hid (show BL.take (k + 1) = BL.take k ++ [x] by rw [List.take_succ_eq_append_getElem hlt, hxx])
        have hJ2 := HJ.out _ _ (wr.alloc (.cells #[.int .i64 x.1.1, .int .i64 x.1.2.1, .bool x.1.2.2] 44)) none hJs.out (World.grownBy_alloc wr _ none) (by simp)
        have KA := hid (Kc.of_kp (D := D) (Kp.alloc wr (.cells #[.int .i64 x.1.1, .int .i64 x.1.2.1, .bool x.1.2.2] 44) []) (by simp))
        obtain ⟨fn, tmps, assign, body, hy, hR⟩ := HY.out _ x _ hJ2 (by simp; omega)
        unfold bval at hy
        have HR := hid hR
        have hg1 : gg < wr.heap.size := lt_of_block hgg
        have hDW : W.heap.size ≤ wr.heap.size := by omega
        clear hx hxx hgg htake hnc hcm hcs hcl hJ2 hR
        gi_wp2
        refine HR.out.mono ?_
        rintro e W3 (⟨rfl, hJ3, hk3⟩ | ⟨rfl, hJx3⟩)
        · have O3 := hid (hk3.own (KA.out.own hO.out hD) hD)
          have J3 := hid hJ3
          clear hJ3 hk3
          gi_wp2
          go_roundw
          case rel => exact ⟨k + 1, by omega, by simp, by rw [TK.out]; exact J3.out, O3.out⟩
          case measure => simp [intOf]; omega
        · have JX := hid hJx3
          clear hJx3
          gi_wp2
          refine bodyPost_ret (results_none rfl _ _ _) rfl ?_
          exact ⟨⟨_, rfl⟩, .inr ⟨_, by rw [← TK.out]; exact List.take_prefix _ _, JX.out⟩⟩
    · have hltI : ¬ (k : Int) < ((blocksOf m P).length : Int) := by omega
      have hJe := hJs.out
      rw [List.take_of_length_le (by omega)] at hJe
      have JE := hid hJe
      clear hJe
      gi_wp2
      go_end0
      exact ⟨⟨_, rfl⟩, .inl JE.out⟩

/-- The iterator's contract. -/
theorem all_stops_q (q : Bk → Prop) (n : Nat) (hn : 1 ≤ n) (D bx hb rb mb pb m : Nat) (g : Mem) (c : Int) (P : Pcs) (BL : List (Bq q)) (hBL : BL.map (·.1) = blocksOf m P) (w : World) (hH : Hp w hb rb mb pb m g c P) (hP : Okp m P) (hl : P.length ≤ 65536) (hD : D ≤ w.heap.size)
    (hbx : w.cell? ⟨bx, 0, none⟩ = some (.pointer (some ⟨hb, 0, none⟩))) :
    SeqStopsK Fence.wide n Tryz.prog 91 #[.pointer (some ⟨bx, 0, none⟩)] (fun x : Bq q => #[bval x.1]) (Kc D) (fun xs => xs = BL) (fun pre => pre <+: BL) BL.length w := fun l J Jx W hW hJ _ hY h0 => by
  have hk : Kp w W [] := Kp.of_below hW
  exact all1_q q n hn l D bx hb rb mb pb m g c P BL hBL J Jx W (hH.same hk) hP hl (Nat.le_trans hD hk.size) (hk.cell hbx (by simp)) hJ hY h0

end Go.Proofs.YtgefmnnkpffpcaaGreatDoor

/- Check, what is kept while it goes over the blocks: no Go is walked here. -/
namespace Go.Proofs.YtgefmnnkpffpcaaGreatDoor
open Go.RowKit Go.Maps Go.Shelf

/-- What a block's own size word says. -/
def qB (n : Nat) (g : Mem) (b : Bk) : Prop := rd n g b.1 = b.2.1 + (if b.2.2 then 1 else 0) ∧ b.2.1 % 8 = 0 ∧ 16 ≤ b.2.1
def valq {q : Bk → Prop} (l : List (Bq q)) : List Bk := l.map (·.1)
theorem valq_snoc {q : Bk → Prop} (l : List (Bq q)) (x : Bq q) : valq (l ++ [x]) = valq l ++ [x.1] := by simp [valq]
theorem valq_length {q : Bk → Prop} (l : List (Bq q)) : (valq l).length = l.length := by simp [valq]
def lastAt (l : List Bk) : Int := (l.getLast?.map (·.1)).getD 0
theorem lastAt_snoc (l : List Bk) (x : Bk) : lastAt (l ++ [x]) = x.1 := by simp [lastAt]
/-- The free ones of the blocks, each with its class. -/
def freeOf (l : List Bk) : Pcs := l.foldl (fun F b => if b.2.2 then putP F b.1 (cls b.2.1) else F) []
theorem freeOf_snoc (l : List Bk) (x : Bk) : freeOf (l ++ [x]) = if x.2.2 then putP (freeOf l) x.1 (cls x.2.1) else freeOf l := by simp [freeOf, List.foldl_append]
theorem insP_length (x : Int × Int) : ∀ P : Pcs, (insP x P).length = P.length + 1
  | [] => rfl
  | y :: r => by
    unfold insP
    split
    · rfl
    · simp [insP_length x r]
theorem putP_length (P : Pcs) (k v : Int) : (putP P k v).length ≤ P.length + 1 := by
  unfold putP
  rw [insP_length]
  have : (delP P k).length ≤ P.length := List.length_filter_le _ _
  omega
theorem fold_length (l : List Bk) : ∀ F : Pcs, (l.foldl (fun F b => if b.2.2 then putP F b.1 (cls b.2.1) else F) F).length ≤ F.length + l.length := by
  induction l with
  | nil => intro F; simp
  | cons b r ih =>
    intro F
    rw [List.foldl_cons]
    refine Nat.le_trans (ih _) ?_
    simp only [List.length_cons]
    split
    · have := putP_length F b.1 (cls b.2.1); omega
    · omega
theorem freeOf_length (l : List Bk) : (freeOf l).length ≤ l.length := by
  have := fold_length l []
  simpa [freeOf] using this

theorem Kp.toFrom {A B : World} {rows : List Nat} (h : Kp A B rows) {D : Nat} (hr : ∀ k ∈ rows, k < D) : KeepsFrom D A B :=
  ⟨h.size, fun k _ hk ho _ => (h.block k (lt_of_block ho) (fun hm => by have := hr k hm; omega)).trans ho⟩

/-- While Check goes over the blocks: its boxes, its map, the heap. -/
structure Cs (w W : World) (hb rb mb pb n : Nat) (g : Mem) (P : Pcs) (c : Int) (k : Nat) (pr : Int) (F : Pcs) : Prop where
  b1 : W.heap[w.heap.size]? = some (.cells #[.pointer (some ⟨hb, 0, none⟩)] 23 (0, 0))
  b2 : W.heap[w.heap.size + 1]? = some (.cells #[.bool false] 4 (0, 0))
  b3 : W.heap[w.heap.size + 3]? = some (.cells #[.map (some (w.heap.size + 2))] 65 (0, 0))
  b4 : W.heap[w.heap.size + 4]? = some (.cells #[.int .i64 pr] 3 (0, 0))
  mp : Mp W (w.heap.size + 2) F
  hp : ∃ c1, c ≤ c1 ∧ c1 ≤ c + 2 * k ∧ Hp W hb rb mb pb n g c1 P
  kp : Kp w W [rb]
  lt : hb < w.heap.size ∧ rb < w.heap.size ∧ mb < w.heap.size ∧ pb < w.heap.size ∧ 0 < w.heap.size

variable {w A B : World} {hb rb mb pb n : Nat} {g : Mem} {P F : Pcs} {c pr : Int} {k : Nat}
theorem Cs.keep (h : Cs w A hb rb mb pb n g P c k pr F) {rows : List Nat} (hk : Kp A B rows) (hr : ∀ r ∈ rows, w.heap.size + 5 ≤ r) : Cs w B hb rb mb pb n g P c k pr F := by
  have hl := h.lt
  have hn : ∀ i, i < w.heap.size + 5 → i ∉ rows := fun i hi hm => by have := hr i hm; omega
  obtain ⟨c1, x1, x2, x3⟩ := h.hp
  exact ⟨(hk.block _ (lt_of_block h.b1) (hn _ (by omega))).trans h.b1, (hk.block _ (lt_of_block h.b2) (hn _ (by omega))).trans h.b2,
    (hk.block _ (lt_of_block h.b3) (hn _ (by omega))).trans h.b3, (hk.block _ (lt_of_block h.b4) (hn _ (by omega))).trans h.b4,
    h.mp.keep hk (hn _ (by omega)), ⟨c1, x1, x2, x3.keep hk (hn _ (by omega)) (hn _ (by omega)) (hn _ (by omega)) (hn _ (by omega)) (hn _ (by omega))⟩,
    h.kp.past hk (fun i hi hlt => by have := hr i hi; omega), h.lt⟩
theorem Cs.own (h : Cs w A hb rb mb pb n g P c k pr F) {row : Option Nat} (hg : A.grownBy B row) (hr : ∀ r, row = some r → w.heap.size + 5 ≤ r) : Cs w B hb rb mb pb n g P c k pr F := by
  cases row with
  | none => exact h.keep (rows := []) (Kp.grown hg) (by simp)
  | some r => exact h.keep (Kp.grownRow hg) (by simpa using hr r rfl)
theorem Cs.off (h : Cs w A hb rb mb pb n g P c k pr F) : Off hb rb mb pb (w.heap.size + 2) := by
  have := h.lt
  unfold Off
  omega
/-- Behind a store into the map. -/
theorem Cs.remap {F' : Pcs} (h : Cs w A hb rb mb pb n g P c k pr F) (hk : Kp A B [w.heap.size + 2]) (hm : Mp B (w.heap.size + 2) F') : Cs w B hb rb mb pb n g P c k pr F' := by
  have hl := h.lt
  obtain ⟨c1, x1, x2, x3⟩ := h.hp
  exact ⟨(hk.block _ (lt_of_block h.b1) (by simp)).trans h.b1, (hk.block _ (lt_of_block h.b2) (by simp)).trans h.b2,
    (hk.block _ (lt_of_block h.b3) (by simp)).trans h.b3, (hk.block _ (lt_of_block h.b4) (by simp)).trans h.b4,
    hm, ⟨c1, x1, x2, x3.keep hk (by simp; omega) (by simp; omega) (by simp; omega) (by simp; omega) (by simp)⟩,
    h.kp.past hk (fun i hi hlt => by simp at hi; omega), h.lt⟩
/-- Behind a word that was looked at. -/
theorem Cs.word {c1 c2 : Int} {k' : Nat} (h : Cs w A hb rb mb pb n g P c k pr F) (hk : Kp A B [rb]) (hH : Hp B hb rb mb pb n g c2 P) (h1 : c ≤ c1) (h2 : c1 ≤ c2) (h3 : c2 ≤ c + 2 * k') : Cs w B hb rb mb pb n g P c k' pr F := by
  have hl := h.lt
  exact ⟨(hk.block _ (lt_of_block h.b1) (by simp; omega)).trans h.b1, (hk.block _ (lt_of_block h.b2) (by simp; omega)).trans h.b2,
    (hk.block _ (lt_of_block h.b3) (by simp; omega)).trans h.b3, (hk.block _ (lt_of_block h.b4) (by simp; omega)).trans h.b4,
    h.mp.keep hk (by simp; omega), ⟨c2, by omega, h3, hH⟩, h.kp.trans hk, h.lt⟩
/-- Behind a store of where the block begins. -/
theorem Cs.ahead (h : Cs w A hb rb mb pb n g P c k pr F) (x : Int) : Cs w (A.setCell ⟨w.heap.size + 4, 0, none⟩ (.int .i64 x)) hb rb mb pb n g P c k x F := by
  have hl := h.lt
  have hk := Kp.setCell A ⟨w.heap.size + 4, 0, none⟩ (.int .i64 x)
  obtain ⟨c1, x1, x2, x3⟩ := h.hp
  exact ⟨(hk.block _ (lt_of_block h.b1) (by simp)).trans h.b1, (hk.block _ (lt_of_block h.b2) (by simp)).trans h.b2,
    (hk.block _ (lt_of_block h.b3) (by simp)).trans h.b3, set_one h.b4,
    h.mp.keep hk (by simp), ⟨c1, x1, x2, x3.keep hk (by simp; omega) (by simp; omega) (by simp; omega) (by simp; omega) (by simp)⟩,
    h.kp.past hk (fun i hi hlt => by simp at hi; omega), h.lt⟩
theorem Cs.mono {k' : Nat} (h : Cs w A hb rb mb pb n g P c k pr F) (hk : k ≤ k') : Cs w A hb rb mb pb n g P c k' pr F := by
  obtain ⟨c1, x1, x2, x3⟩ := h.hp
  exact ⟨h.b1, h.b2, h.b3, h.b4, h.mp, ⟨c1, x1, by omega, x3⟩, h.kp, h.lt⟩

theorem Cs.new (h : Hp w hb rb mb pb n g c P) (W : World)
    (hW : (((((w.alloc (.cells #[.pointer (some ⟨hb, 0, none⟩)] 23)).alloc (.cells #[.bool false] 4)).alloc (.map #[] 0)).alloc (.cells #[.map (some (w.heap.size + 2))] 65)).alloc (.cells #[.int .i64 0] 3)).alloc (.cells #[.pointer (some ⟨hb, 0, none⟩)] 23) = W) :
    Cs w W hb rb mb pb n g P c 0 0 [] ∧ Kp w W [] ∧ W.heap.size = w.heap.size + 6 ∧ W.cell? ⟨w.heap.size + 5, 0, none⟩ = some (.pointer (some ⟨hb, 0, none⟩)) := by
  obtain ⟨V, hV⟩ : ∃ V, ((((w.alloc (.cells #[.pointer (some ⟨hb, 0, none⟩)] 23)).alloc (.cells #[.bool false] 4)).alloc (.map #[] 0)).alloc (.cells #[.map (some (w.heap.size + 2))] 65)).alloc (.cells #[.int .i64 0] 3) = V := ⟨_, rfl⟩
  obtain ⟨e0, e1, e2, e3, e4, eK, es⟩ := five_new w _ _ _ _ _ V hV
  have hM : Mp V (w.heap.size + 2) [] := by
    have h1 := World.ownsMap_made (H := Unit) ((w.alloc (.cells #[.pointer (some ⟨hb, 0, none⟩)] 23)).alloc (.cells #[.bool false] 4)) Tryz.prog 3 (plainElem Tryz.prog 3)
    have h2 := Mp.of_owns (P := []) h1
    rw [show ((w.alloc (.cells #[.pointer (some ⟨hb, 0, none⟩)] 23)).alloc (.cells #[.bool false] 4)).heap.size = w.heap.size + 2 by simp] at h2
    rw [← hV]
    exact (h2.keep (Kp.alloc _ _ []) (by simp)).keep (Kp.alloc _ _ []) (by simp)
  have hl := h.lt
  have h0 := h.tb.lt
  have hCV : Cs w V hb rb mb pb n g P c 0 0 [] := ⟨e0, e1, e3, e4, hM, ⟨c, by omega, by omega, h.same eK⟩, eK.nil, by omega⟩
  rw [hV] at hW
  subst hW
  refine ⟨hCV.keep (Kp.alloc _ _ []) (by simp), eK.trans (Kp.alloc _ _ []), by simp [es], ?_⟩
  have := cell_new0 (w := V) (v := .pointer (some ⟨hb, 0, none⟩)) (t := 23)
  rwa [es] at this
end Go.Proofs.YtgefmnnkpffpcaaGreatDoor
