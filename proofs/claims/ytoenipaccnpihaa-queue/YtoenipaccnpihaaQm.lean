/- Signals, two arrays of rows, boxes: all made here. -/
import Derived.Test.YtoenipaccnpihaaKn
import Derived.Test.YtoenipaccnpihaaQp
import Derived.Test.YtoenipaccnpihaaClr
namespace Go.Proofs.Ytoenipaccnpihaa
open Go.RowKit Go.Shelf Go.Sort Go.Maps
open Go.Lib hiding intOf
attribute [local go_sem] Oper.semAt_some

def updH (H : Nat → Value) (i : Nat) (v : Value) : Nat → Value := fun j => if j = i then v else H j
/-- Signals made here, what was sent and what was taken by numbers, boxes. -/
structure Qr (w0 W : World) (sb S : Nat) (L : El) (ba bt : Nat) (H : Nat → Value) (Z : Nat → List Int) (B : Bx) (R : List Nat) : Prop where
  sg : Sg W sb R 3 S (fun _ => 0) L
  fr : ∀ k ∈ R, w0.heap.size ≤ k
  kp : Kp w0 W []
  a : W.heap[ba]? = some (.cells (vcl H 32 0).toArray 44 (0, 0))
  t : W.heap[bt]? = some (.cells (vcl (fun i => H (32 + i)) 32 0).toArray 44 (0, 0))
  aR : ba ∉ R ∧ bt ∉ R ∧ ba ≠ bt ∧ w0.heap.size ≤ ba ∧ w0.heap.size ≤ bt
  row : ∀ i, i < 64 → Ns W 0 (H i) (Z i)
  far : ∀ i g, i < 64 → (H i).ownBlock = some g → w0.heap.size ≤ g ∧ g ∉ R
  inj : ∀ i j g, i < 64 → j < 64 → (H i).ownBlock = some g → (H j).ownBlock = some g → i = j
  box : ∀ x ∈ B, W.heap[x.1]? = some (.cells x.2.1 x.2.2 (0, 0)) ∧ x.1 ∉ R ∧ w0.heap.size ≤ x.1 ∧ x.2.2 ≠ 2 ∧ x.1 ≠ ba ∧ x.1 ≠ bt
def Qm (w0 W : World) (sb S : Nat) (L : El) (ba bt : Nat) (H : Nat → Value) (Z : Nat → List Int) (B : Bx) : Prop := ∃ R, Qr w0 W sb S L ba bt H Z B R
section
variable {w0 W W' : World} {sb S : Nat} {L L' : El} {ba bt : Nat} {H : Nat → Value} {Z : Nat → List Int} {B B' : Bx} {R R' : List Nat}
theorem Qr.own (h : Qr w0 W sb S L ba bt H Z B R) {i g : Nat} (hi : i < 64) (hg : (H i).ownBlock = some g) : ∃ cur, W.heap[g]? = some (.cells cur 2 (0, 0)) := (owns_block (h.row i hi) hg).2
theorem Qr.nb (h : Qr w0 W sb S L ba bt H Z B R) {i g : Nat} (hi : i < 64) (hg : (H i).ownBlock = some g) : g ≠ ba ∧ g ≠ bt ∧ (∀ x ∈ B, g ≠ x.1) ∧ g < W.heap.size := by
  obtain ⟨cur, hc⟩ := h.own hi hg
  refine ⟨fun e => ?_, fun e => ?_, fun x hx e => ?_, lt_of_block hc⟩
  · rw [e, h.a] at hc
    simp at hc
  · rw [e, h.t] at hc
    simp at hc
  · rw [e, (h.box x hx).1] at hc
    simp at hc
    exact (h.box x hx).2.2.2.1 hc.2
/-- Other blocks of the signals; all else as it was. -/
theorem Qr.turn (h : Qr w0 W sb S L ba bt H Z B R) (hs : Sg W' sb R' 3 S (fun _ => 0) L') (hn : Nw W R R') (hk : Kp W W' R) : Qr w0 W' sb S L' ba bt H Z B R' := by
  have hz := h.kp.size
  have hz' := hk.size
  have out : ∀ k, k < W.heap.size → k ∉ R → k ∉ R' := fun k hl hk' hm => by
    rcases hn k hm with q | q
    · exact hk' q
    · omega
  refine ⟨hs, fun k hm => ?_, h.kp.past hk (fun k hm hl => by have := h.fr k hm; omega), (hk.block _ (lt_of_block h.a) h.aR.1).trans h.a, (hk.block _ (lt_of_block h.t) h.aR.2.1).trans h.t, ⟨out _ (lt_of_block h.a) h.aR.1, out _ (lt_of_block h.t) h.aR.2.1, h.aR.2.2⟩, fun i hi => (h.row i hi).kp hk (fun g hg => (h.far i g hi hg).2), fun i g hi hg => ⟨(h.far i g hi hg).1, out g (h.nb hi hg).2.2.2 (h.far i g hi hg).2⟩, h.inj, fun x hx => ?_⟩
  · rcases hn k hm with q | q
    · exact h.fr k q
    · omega
  · obtain ⟨b1, b2, b3⟩ := h.box x hx
    exact ⟨(hk.block _ (lt_of_block b1) b2).trans b1, out _ (lt_of_block b1) b2, b3⟩
theorem Qm.call {f : Nat} {args : Array Value} {v : Value} (h : Qm w0 W sb S L ba bt H Z B) (hc : ∀ R, Sg W sb R 3 S (fun _ => 0) L → Calls Try.prog f args W fun e w' => e = .returned v ∧ To W w' sb R 3 S (fun _ => 0) L') : Calls Try.prog f args W fun e w' => e = .returned v ∧ Qm w0 w' sb S L' ba bt H Z B := by
  obtain ⟨R, h⟩ := h
  refine (hc R h.sg).mono ?_
  rintro e w' ⟨rfl, R', hs, hn, hk⟩
  exact ⟨rfl, R', h.turn hs hn hk⟩
theorem Qm.go (h : Qm w0 W sb S L ba bt H Z B) (hk : Kp W W' []) : Qm w0 W' sb S L ba bt H Z B := by
  obtain ⟨R, h⟩ := h
  exact ⟨R, h.turn (h.sg.same hk) (Nw.refl _ _) hk.nil⟩
theorem Qm.kp (h : Qm w0 W sb S L ba bt H Z B) : Kp w0 W [] := by
  obtain ⟨R, h⟩ := h
  exact h.kp
theorem Qm.sub (h : Qm w0 W sb S L ba bt H Z B) (hB : ∀ x ∈ B', x ∈ B) : Qm w0 W sb S L ba bt H Z B' := by
  obtain ⟨R, h⟩ := h
  exact ⟨R, h.sg, h.fr, h.kp, h.a, h.t, h.aR, h.row, h.far, h.inj, fun x hx => h.box x (hB x hx)⟩
theorem Qm.alloc (h : Qm w0 W sb S L ba bt H Z B) (c : Array Value) (t : Nat) (ht : t ≠ 2) : Qm w0 (W.alloc (.cells c t)) sb S L ba bt H Z ((W.heap.size, c, t) :: B) := by
  obtain ⟨R, h⟩ := h
  have hk := Kp.alloc W (.cells c t) []
  have h' := h.turn (h.sg.same hk) (Nw.refl _ _) hk.nil
  refine ⟨R, h'.sg, h'.fr, h'.kp, h'.a, h'.t, h'.aR, h'.row, h'.far, h'.inj, fun x hx => ?_⟩
  rcases List.mem_cons.1 hx with rfl | hx
  · exact ⟨heap_alloc_new W _, fun hm => by have := h.sg.lt _ hm; simp at this, h.kp.size, ht, fun e => by have := lt_of_block h.a; rw [← e] at this; simp at this, fun e => by have := lt_of_block h.t; rw [← e] at this; simp at this⟩
  · exact h'.box x hx
theorem Qm.box (h : Qm w0 W sb S L ba bt H Z B) {x : Nat × Array Value × Nat} (hx : x ∈ B) : W.heap[x.1]? = some (.cells x.2.1 x.2.2 (0, 0)) := by
  obtain ⟨R, h⟩ := h
  exact (h.box x hx).1
theorem Qm.ok (h : Qm w0 W sb S L ba bt H Z B) : Ok 3 S L := by
  obtain ⟨R, h⟩ := h
  exact h.sg.ok
theorem Qm.bd (h : Qm w0 W sb S L ba bt H Z B) : 1 ≤ S ∧ S ≤ 32 := by
  obtain ⟨R, h⟩ := h
  exact h.sg.bd.2
theorem Qm.sliceA (h : Qm w0 W sb S L ba bt H Z B) {i : Nat} (hi : i < 32) : ∃ ao cap, H i = .slice ao (Z i).length cap ∧ W.cell? ⟨ba, i, none⟩ = some (.slice ao (Z i).length cap) := by
  obtain ⟨R, h⟩ := h
  obtain ⟨ao, cap, e⟩ := (h.row i (by omega)).slice
  exact ⟨ao, cap, e, by rw [vcl_cell h.a i hi, e]⟩
theorem Qm.sliceT (h : Qm w0 W sb S L ba bt H Z B) {i : Nat} (hi : i < 32) : ∃ ao cap, H (32 + i) = .slice ao (Z (32 + i)).length cap ∧ W.cell? ⟨bt, i, none⟩ = some (.slice ao (Z (32 + i)).length cap) := by
  obtain ⟨R, h⟩ := h
  obtain ⟨ao, cap, e⟩ := (h.row (32 + i) (by omega)).slice
  exact ⟨ao, cap, e, by rw [vcl_cell h.t i hi, e]⟩
theorem Qm.rowN (h : Qm w0 W sb S L ba bt H Z B) {i : Nat} (hi : i < 64) : Ns W 0 (H i) (Z i) := by
  obtain ⟨R, h⟩ := h
  exact h.row i hi
/-- A value goes behind a row: what was sent. -/
theorem Qm.pushA (h : Qm w0 W sb S L ba bt H Z B) {i : Nat} (hi : i < 32) (v : Int) (hl : (Z (i)).length ≤ 1000000) :
    ∃ V' w2, (Builtin.append_ #[43, 43] 43 #[H (i), .slice (some ⟨W.heap.size, 0, none⟩) 1 1]).run Try.prog (W.alloc (.cells #[.int .i64 v] 2)) = .ok V' w2 ∧ (∀ x ∈ B, w2.heap[x.1]? = some (.cells x.2.1 x.2.2 (0, 0))) ∧ w2.cell? ⟨ba, i, none⟩ = some (H (i)) ∧ w2.frozen? ⟨ba, i, none⟩ = false ∧
      Qm w0 (w2.setCell ⟨ba, i, none⟩ V') sb S L ba bt (updH H (i) V') (updZ Z (i) (Z (i) ++ [v])) B := by
  obtain ⟨R, h⟩ := h
  have hI : i < 64 := by omega
  have k1 := Kp.alloc W (.cells #[.int .i64 v] 2) []
  have hX : Ns (W.alloc (.cells #[.int .i64 v] 2)) 0 (.slice (some ⟨W.heap.size, 0, none⟩) 1 1) [v] := (Ns.one W v).low (Nat.zero_le _)
  obtain ⟨V', w2, hrun, hN, hG, hat⟩ := push_where 43 (H (i)) (Z (i)) ((h.row _ hI).keep k1) ⟨W.heap.size, 0, none⟩ [v] 1 hX (by simp) hl (by simp)
  have k2 : Kp (W.alloc (.cells #[.int .i64 v] 2)) w2 (H (i)).ownBlock.toList := Kp.ofGrown hG (by intro g hg; simp [hg])
  have k12 : Kp W w2 (H (i)).ownBlock.toList := k1.nil.trans k2
  have ks := Kp.setCell w2 ⟨ba, i, none⟩ V'
  have ks' : Kp w2 (w2.setCell ⟨ba, i, none⟩ V') [ba] := ks
  have hnR : ∀ k ∈ R, k ∉ (H (i)).ownBlock.toList := fun k hk hm => by
    simp at hm
    exact (h.far _ _ hI hm).2 hk
  have ha2 : ∀ b, b < W.heap.size → (∀ g, (H (i)).ownBlock = some g → g ≠ b) → w2.heap[b]? = W.heap[b]? := fun b hb hne => k12.block b hb (fun hm => by
    simp at hm
    exact hne b hm rfl)
  have haA := (ha2 ba (lt_of_block h.a) (fun g hg => (h.nb hI hg).1)).trans h.a
  have haT := (ha2 bt (lt_of_block h.t) (fun g hg => (h.nb hI hg).2.1)).trans h.t
  have hbx : ∀ x ∈ B, w2.heap[x.1]? = some (.cells x.2.1 x.2.2 (0, 0)) := fun x hx => (ha2 x.1 (lt_of_block (h.box x hx).1) (fun g hg => (h.nb hI hg).2.2.1 x hx)).trans (h.box x hx).1
  have kk : Kp W (w2.setCell ⟨ba, i, none⟩ V') (ba :: (H (i)).ownBlock.toList) := (k12.mono (by intro k hk _; exact List.mem_cons_of_mem _ hk)).trans (ks'.mono (by simp))
  have hVo : ∀ g, V'.ownBlock = some g → (H (i)).ownBlock = some g ∨ W.heap.size ≤ g := fun g hg => by
    rcases hat with e | e
    · exact .inl (e ▸ hg)
    · right
      rw [hg] at e
      simp at e
      omega
  have hVa : ∀ g, V'.ownBlock = some g → g ≠ ba ∧ g ≠ bt := fun g hg => by
    obtain ⟨-, cur, hc⟩ := owns_block hN hg
    refine ⟨fun e => ?_, fun e => ?_⟩
    · rw [e, haA] at hc
      simp at hc
    · rw [e, haT] at hc
      simp at hc
  refine ⟨V', w2, hrun, hbx, vcl_cell haA i hi, by simp [World.frozen?, haA], R, ?_, h.fr, h.kp.past kk (fun k hk hl => ?_), ?_, ?_, h.aR, fun j hj => ?_, fun j g hj hg => ?_, fun j j' g hj hj' hg hg' => ?_, fun x hx => ?_⟩
  · refine (h.sg.keep k12 hnR).keep ks' (fun k hk hm => ?_)
    simp at hm
    subst hm
    exact h.aR.1 hk
  · rcases List.mem_cons.1 hk with rfl | hk
    · have := h.aR.2.2.2; omega
    · simp at hk
      have := (h.far _ _ hI hk).1
      omega
  · exact vcl_heap haA hi (fun j hj => by unfold updH; rfl)
  · refine (ks'.block _ (lt_of_block haT) (by simp; exact fun e => h.aR.2.2.1 e.symm)).trans (haT.trans ?_)
    congr 3
    exact vcl_congr 32 0 (fun j hj => by unfold updH; rw [if_neg (by omega)])
  · unfold updH updZ
    by_cases e : j = i
    · rw [if_pos e, if_pos e]
      exact hN.kp ks' (fun g hg hm => by
        simp at hm
        exact (hVa g hg).1 hm)
    · rw [if_neg e, if_neg e]
      refine ((h.row j hj).kp k12 (fun g hg hm => ?_)).kp ks' (fun g hg hm => ?_)
      · simp at hm
        exact e (h.inj j _ g hj hI hg hm)
      · simp at hm
        exact (h.nb hj hg).1 hm
  · unfold updH at hg
    by_cases e : j = i
    · rw [if_pos e] at hg
      rcases hVo g hg with q | q
      · exact h.far _ _ hI q
      · exact ⟨by have := h.kp.size; omega, fun hm => by have := h.sg.lt _ hm; omega⟩
    · rw [if_neg e] at hg
      exact h.far j g hj hg
  · unfold updH at hg hg'
    by_cases e : j = i
    · by_cases e' : j' = i
      · rw [e, e']
      · rw [if_pos e] at hg
        rw [if_neg e'] at hg'
        rcases hVo g hg with q | q
        · rw [e]
          exact h.inj _ _ g hI hj' q hg'
        · have := (h.nb hj' hg').2.2.2
          omega
    · rw [if_neg e] at hg
      by_cases e' : j' = i
      · rw [if_pos e'] at hg'
        rcases hVo g hg' with q | q
        · rw [e']
          exact h.inj _ _ g hj hI hg q
        · have := (h.nb hj hg).2.2.2
          omega
      · rw [if_neg e'] at hg'
        exact h.inj _ _ g hj hj' hg hg'
  · obtain ⟨b1, b2, b3, b4, b5, b6⟩ := h.box x hx
    exact ⟨(ks'.block _ (lt_of_block (hbx x hx)) (by simp; exact b5)).trans (hbx x hx), b2, b3, b4, b5, b6⟩
/-- A value goes behind a row: what was taken. -/
theorem Qm.pushT (h : Qm w0 W sb S L ba bt H Z B) {i : Nat} (hi : i < 32) (v : Int) (hl : (Z (32 + i)).length ≤ 1000000) :
    ∃ V' w2, (Builtin.append_ #[43, 43] 43 #[H (32 + i), .slice (some ⟨W.heap.size, 0, none⟩) 1 1]).run Try.prog (W.alloc (.cells #[.int .i64 v] 2)) = .ok V' w2 ∧ (∀ x ∈ B, w2.heap[x.1]? = some (.cells x.2.1 x.2.2 (0, 0))) ∧ w2.cell? ⟨bt, i, none⟩ = some (H (32 + i)) ∧ w2.frozen? ⟨bt, i, none⟩ = false ∧
      Qm w0 (w2.setCell ⟨bt, i, none⟩ V') sb S L ba bt (updH H (32 + i) V') (updZ Z (32 + i) (Z (32 + i) ++ [v])) B := by
  obtain ⟨R, h⟩ := h
  have hI : 32 + i < 64 := by omega
  have k1 := Kp.alloc W (.cells #[.int .i64 v] 2) []
  have hX : Ns (W.alloc (.cells #[.int .i64 v] 2)) 0 (.slice (some ⟨W.heap.size, 0, none⟩) 1 1) [v] := (Ns.one W v).low (Nat.zero_le _)
  obtain ⟨V', w2, hrun, hN, hG, hat⟩ := push_where 43 (H (32 + i)) (Z (32 + i)) ((h.row _ hI).keep k1) ⟨W.heap.size, 0, none⟩ [v] 1 hX (by simp) hl (by simp)
  have k2 : Kp (W.alloc (.cells #[.int .i64 v] 2)) w2 (H (32 + i)).ownBlock.toList := Kp.ofGrown hG (by intro g hg; simp [hg])
  have k12 : Kp W w2 (H (32 + i)).ownBlock.toList := k1.nil.trans k2
  have ks := Kp.setCell w2 ⟨bt, i, none⟩ V'
  have ks' : Kp w2 (w2.setCell ⟨bt, i, none⟩ V') [bt] := ks
  have hnR : ∀ k ∈ R, k ∉ (H (32 + i)).ownBlock.toList := fun k hk hm => by
    simp at hm
    exact (h.far _ _ hI hm).2 hk
  have ha2 : ∀ b, b < W.heap.size → (∀ g, (H (32 + i)).ownBlock = some g → g ≠ b) → w2.heap[b]? = W.heap[b]? := fun b hb hne => k12.block b hb (fun hm => by
    simp at hm
    exact hne b hm rfl)
  have haA := (ha2 ba (lt_of_block h.a) (fun g hg => (h.nb hI hg).1)).trans h.a
  have haT := (ha2 bt (lt_of_block h.t) (fun g hg => (h.nb hI hg).2.1)).trans h.t
  have hbx : ∀ x ∈ B, w2.heap[x.1]? = some (.cells x.2.1 x.2.2 (0, 0)) := fun x hx => (ha2 x.1 (lt_of_block (h.box x hx).1) (fun g hg => (h.nb hI hg).2.2.1 x hx)).trans (h.box x hx).1
  have kk : Kp W (w2.setCell ⟨bt, i, none⟩ V') (bt :: (H (32 + i)).ownBlock.toList) := (k12.mono (by intro k hk _; exact List.mem_cons_of_mem _ hk)).trans (ks'.mono (by simp))
  have hVo : ∀ g, V'.ownBlock = some g → (H (32 + i)).ownBlock = some g ∨ W.heap.size ≤ g := fun g hg => by
    rcases hat with e | e
    · exact .inl (e ▸ hg)
    · right
      rw [hg] at e
      simp at e
      omega
  have hVa : ∀ g, V'.ownBlock = some g → g ≠ ba ∧ g ≠ bt := fun g hg => by
    obtain ⟨-, cur, hc⟩ := owns_block hN hg
    refine ⟨fun e => ?_, fun e => ?_⟩
    · rw [e, haA] at hc
      simp at hc
    · rw [e, haT] at hc
      simp at hc
  refine ⟨V', w2, hrun, hbx, vcl_cell haT i hi, by simp [World.frozen?, haT], R, ?_, h.fr, h.kp.past kk (fun k hk hl => ?_), ?_, ?_, h.aR, fun j hj => ?_, fun j g hj hg => ?_, fun j j' g hj hj' hg hg' => ?_, fun x hx => ?_⟩
  · refine (h.sg.keep k12 hnR).keep ks' (fun k hk hm => ?_)
    simp at hm
    subst hm
    exact h.aR.2.1 hk
  · rcases List.mem_cons.1 hk with rfl | hk
    · have := h.aR.2.2.2; omega
    · simp at hk
      have := (h.far _ _ hI hk).1
      omega
  · refine (ks'.block _ (lt_of_block haA) (by simp; exact h.aR.2.2.1)).trans (haA.trans ?_)
    congr 3
    exact vcl_congr 32 0 (fun j hj => by unfold updH; rw [if_neg (by omega)])
  · exact vcl_heap haT hi (fun j hj => by
      unfold updH
      by_cases e : j = i
      · rw [if_pos (by omega), if_pos e]
      · rw [if_neg (by omega), if_neg e])
  · unfold updH updZ
    by_cases e : j = 32 + i
    · rw [if_pos e, if_pos e]
      exact hN.kp ks' (fun g hg hm => by
        simp at hm
        exact (hVa g hg).2 hm)
    · rw [if_neg e, if_neg e]
      refine ((h.row j hj).kp k12 (fun g hg hm => ?_)).kp ks' (fun g hg hm => ?_)
      · simp at hm
        exact e (h.inj j _ g hj hI hg hm)
      · simp at hm
        exact (h.nb hj hg).2.1 hm
  · unfold updH at hg
    by_cases e : j = 32 + i
    · rw [if_pos e] at hg
      rcases hVo g hg with q | q
      · exact h.far _ _ hI q
      · exact ⟨by have := h.kp.size; omega, fun hm => by have := h.sg.lt _ hm; omega⟩
    · rw [if_neg e] at hg
      exact h.far j g hj hg
  · unfold updH at hg hg'
    by_cases e : j = 32 + i
    · by_cases e' : j' = 32 + i
      · rw [e, e']
      · rw [if_pos e] at hg
        rw [if_neg e'] at hg'
        rcases hVo g hg with q | q
        · rw [e]
          exact h.inj _ _ g hI hj' q hg'
        · have := (h.nb hj' hg').2.2.2
          omega
    · rw [if_neg e] at hg
      by_cases e' : j' = 32 + i
      · rw [if_pos e'] at hg'
        rcases hVo g hg' with q | q
        · rw [e']
          exact h.inj _ _ g hj hI hg q
        · have := (h.nb hj hg).2.2.2
          omega
      · rw [if_neg e'] at hg'
        exact h.inj _ _ g hj hj' hg hg'
  · obtain ⟨b1, b2, b3, b4, b5, b6⟩ := h.box x hx
    exact ⟨(ks'.block _ (lt_of_block (hbx x hx)) (by simp; exact b6)).trans (hbx x hx), b2, b3, b4, b5, b6⟩
end
end Go.Proofs.Ytoenipaccnpihaa
