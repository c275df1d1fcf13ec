/- Marks of loops that are over. -/
import Derived.Test.YtjggpchjfglgcaaRange
namespace Go.Proofs.Ytjggpchjfglgcaa
open Go.RowKit Go.Shelf Go.Lib

/-! ### Marks of loops that are over -/
def Live (lo : Nat) (W : World) (Ds : List Nat) : Prop := (∀ D ∈ Ds, W.heap[D]? = some (.deferred (some []))) ∧ Ds.Nodup ∧ ∀ D ∈ Ds, lo ≤ D
def marks (Ds : List Nat) : List Deferred := Ds.map fun D => { target := .collected D, args := #[] }
theorem Live.own {lo : Nat} {A B : World} {row : Option Nat} {Ds : List Nat} {D0 : Nat} (h : Live lo A Ds) (hD : ∀ D ∈ Ds, D < D0) (hg : A.grownBy B row) (hr : ∀ r, row = some r → D0 ≤ r) : Live lo B Ds :=
  ⟨fun D hm => (hg.block D (lt_of_block (h.1 D hm)) (fun e => by have := hr D e.symm; have := hD D hm; omega)).trans (h.1 D hm), h.2⟩
theorem Live.keeps {lo : Nat} {A B : World} {Ds : List Nat} (h : Live lo A Ds) (hk : KeepsFrom lo A B) : Live lo B Ds :=
  ⟨fun D hm => hk.same D _ (h.2.2 D hm) (h.1 D hm) rfl, h.2⟩
theorem Live.set {lo : Nat} {A : World} {Ds : List Nat} (h : Live lo A Ds) {b : Nat} {c : Array Value} {t : TypeId} {f : Nat × Nat} (hb : A.heap[b]? = some (.cells c t f)) (v : Value) : Live lo (A.setCell ⟨b, 0, none⟩ v) Ds :=
  ⟨fun D hm => (Below.heap_setCell _ _ _ _ (fun e => by
    have := h.1 D hm
    simp only at e
    rw [e, hb] at this
    simp at this)).trans (h.1 D hm), h.2⟩
theorem Live.alloc {lo : Nat} {A : World} {Ds : List Nat} (h : Live lo A Ds) (o : Obj) : Live lo (A.alloc o) Ds :=
  ⟨fun D hm => (Below.heap_alloc _ _ _ (lt_of_block (h.1 D hm))).trans (h.1 D hm), h.2⟩
theorem Live.more {lo : Nat} {A : World} {Ds : List Nat} {D : Nat} (h : Live lo A Ds) (hD : A.heap[D]? = some (.deferred (some []))) (hn : ∀ E ∈ Ds, E < D) (hl : lo ≤ D) : Live lo A (D :: Ds) :=
  ⟨by intro E hE; rcases List.mem_cons.1 hE with rfl | hE; exact hD; exact h.1 E hE, List.nodup_cons.2 ⟨fun hm => by have := hn D hm; omega, h.2.1⟩, by intro E hE; rcases List.mem_cons.1 hE with rfl | hE; exact hl; exact h.2.2 E hE⟩
/-- All marks are come to. -/
def shut (W : World) : List Nat → World
  | [] => W
  | D :: Ds => shut (W.putObj D (.deferred none)) Ds
theorem Live.tl {lo : Nat} {W : World} {D : Nat} {Ds : List Nat} (h : Live lo W (D :: Ds)) : Live lo (W.putObj D (.deferred none)) Ds := by
  have hn := List.nodup_cons.1 h.2.1
  refine ⟨fun E hE => ?_, hn.2, fun E hE => h.2.2 E (by simp [hE])⟩
  have : E ≠ D := by rintro rfl; exact hn.1 hE
  exact (World.putObj_heap_other this).trans (h.1 E (by simp [hE]))
theorem leaves_marks {F : Fence} {n : Nat} {P : Program} {fn : Func} {tmps : Array Value} {R : Ending → World → Prop} {lo : Nat} : ∀ (Ds : List Nat) (W : World), Live lo W Ds → LeavesIn F n P fn tmps R [] .returning (shut W Ds) → LeavesInM F n P fn tmps R (marks Ds) .returning W
  | [], _, _, h => h
  | D :: Ds, W, hL, h => ⟨by simp, .inl ⟨D, _, rfl, run_takeDeferred (hL.1 D (by simp)), leaves_marks Ds _ hL.tl h⟩⟩
theorem own_shut {β : Type} {B lo : Nat} {J : β → World → Prop} (hJ : OwnFrom B J) {s : β} (hB : B ≤ lo) : ∀ (Ds : List Nat) (W : World), Live lo W Ds → J s W → J s (shut W Ds)
  | [], _, _, h => h
  | D :: Ds, W, hL, h => own_shut hJ hB Ds _ hL.tl (hJ.putObj _ h (Nat.le_trans hB (hL.2.2 D (by simp))) (hL.1 D (by simp)) rfl)
theorem kp_shut {lo : Nat} : ∀ (Ds : List Nat) (W : World), Live lo W Ds → ∀ {w : World}, w.heap.size ≤ lo → Kp w W [] → Kp w (shut W Ds) []
  | [], _, _, _, _, h => h
  | D :: Ds, W, hL, w, hw, h => kp_shut Ds _ hL.tl hw ⟨h.os, h.tape, h.output, by have := h.size; simp [World.putObj] at this ⊢; exact this, fun k hk hn => (World.putObj_heap_other (by have := hL.2.2 D (by simp); omega)).trans (h.block k hk hn)⟩
theorem shut_cells {lo b : Nat} {c : Array Value} {t : TypeId} {f : Nat × Nat} : ∀ (Ds : List Nat) (W : World), Live lo W Ds → W.heap[b]? = some (.cells c t f) → (shut W Ds).heap[b]? = some (.cells c t f)
  | [], _, _, h => h
  | D :: Ds, W, hL, h => shut_cells Ds _ hL.tl ((World.putObj_heap_other (by rintro rfl; rw [hL.1 _ (by simp)] at h; cases h)).trans h)

theorem kp_shutR {lo : Nat} {rows : List Nat} : ∀ (Ds : List Nat) (W : World), Live lo W Ds → ∀ {w : World}, w.heap.size ≤ lo → Kp w W rows → Kp w (shut W Ds) rows
  | [], _, _, _, _, h => h
  | D :: Ds, W, hL, w, hw, h => kp_shutR Ds _ hL.tl hw ⟨h.os, h.tape, h.output, by have := h.size; simp [World.putObj] at this ⊢; exact this, fun k hk hn => (World.putObj_heap_other (by have := hL.2.2 D (by simp); omega)).trans (h.block k hk hn)⟩
theorem Kp.past' {w w1 w2 : World} {r : List Nat} (h : Kp w w1 []) (h' : Kp w1 w2 r) : Kp w w2 r := h.nil.trans h'
theorem wp_only {P : Program} {c : Code} {Q : Exit → Act → World → Prop} {a : Act} {w : World} (h : c.wp P (fun e a' w' => match e with | .normal => Q .normal a' w' | _ => False) a w) : c.wp P Q a w :=
  wp_mono h fun e _ _ h => by
    cases e with
    | normal => exact h
    | _ => exact h.elim
end Go.Proofs.Ytjggpchjfglgcaa
