/- Two sides, each a list and the reference's. -/
import Derived.Test.YtcmmckgoiaholaaArgs
import Derived.Test.YtcmmckgoiaholaaRsame
namespace Go.Proofs.Ytcmmckgoiaholaa
open Go.RowKit Go.Shelf Go.Lib Go.Sort Go.Maps

/-- A side, made behind w0. -/
structure Sd (w0 W : World) (b r : Nat) (R : List Nat) (L : List Dl) : Prop where
  wr : Wr W b R L
  rf : Rf W r L
  ge : ∀ k ∈ r :: R, w0.heap.size ≤ k
structure Ts (w0 W : World) (b1 r1 b2 r2 : Nat) : Prop where
  ex : ∃ R1 L1 R2 L2, Sd w0 W b1 r1 R1 L1 ∧ Sd w0 W b2 r2 R2 L2 ∧ (∀ k ∈ R1, k ∉ R2) ∧ r1 ≠ r2
  kp : Kp w0 W []
theorem Ts.swap {w0 W : World} {b1 r1 b2 r2 : Nat} (h : Ts w0 W b1 r1 b2 r2) : Ts w0 W b2 r2 b1 r1 := by
  obtain ⟨R1, L1, R2, L2, h1, h2, h3, h4⟩ := h.ex
  exact ⟨⟨R2, L2, R1, L1, h2, h1, fun k hk hm => h3 k hm hk, fun e => h4 e.symm⟩, h.kp⟩
theorem Sd.keep {w0 W W' : World} {b r : Nat} {R : List Nat} {L : List Dl} (h : Sd w0 W b r R L) (hk : Kp W W' []) : Sd w0 W' b r R L := ⟨h.wr.same hk, h.rf.keep hk, h.ge⟩
theorem Ts.keep {w0 W W' : World} {b1 r1 b2 r2 : Nat} (h : Ts w0 W b1 r1 b2 r2) (hk : Kp W W' []) : Ts w0 W' b1 r1 b2 r2 := by
  obtain ⟨R1, L1, R2, L2, h1, h2, h3, h4⟩ := h.ex
  exact ⟨⟨R1, L1, R2, L2, h1.keep hk, h2.keep hk, h3, h4⟩, h.kp.trans hk⟩
/-- The reference, beside another and a list. -/
theorem Rf.beside {W W' : World} {r1 r2 : Nat} {L M : List Dl} (h : Rf W r2 M) (h1 : Rf W r1 L) (hne : r1 ≠ r2) {b : Nat} {R : List Nat} {L1 : List Dl} (hw : Wr W b R L1) (hk : Kp W W' (r1 :: R)) : Rf W' r2 M := by
  obtain ⟨v, hb, hd⟩ := h
  obtain ⟨u, hu, -⟩ := h1
  refine ⟨v, (hk.block r2 (lt_of_block hb) (fun hm => ?_)).trans hb, hd.kp hk fun g hg hm => ?_⟩
  · rcases List.mem_cons.1 hm with e | hm
    · exact hne e.symm
    · exact (hw.kind r2 hm _).1 hb
  · obtain ⟨-, cur, hcur⟩ := owns_block hd hg
    rcases List.mem_cons.1 hm with e | hm
    · exact block_ne hcur hu (by decide) e
    · exact (hw.kind g hm _).2 hcur
theorem Ts.step {w0 W : World} {b1 r1 b2 r2 : Nat} (h : Ts w0 W b1 r1 b2 r2) (k t p : Int) : Calls Try.prog 8 #[.pointer (some ⟨b1, 0, none⟩), .pointer (some ⟨r1, 0, none⟩), .agg #[.int .i64 k, .int .i64 t, .int .i64 p]] W fun e w' => ∃ b', e = .returned (.tuple #[.pointer (some ⟨b', 0, none⟩), .pointer (some ⟨r1, 0, none⟩), .bool true]) ∧ Ts w0 w' b' r1 b2 r2 := by
  obtain ⟨R1, L1, R2, L2, h1, h2, h3, h4⟩ := h.ex
  have hs := h.kp.size
  refine (do_any W b1 r1 R1 L1 k t p h1.wr h1.rf).mono ?_
  rintro e w' ⟨b', R', rfl, c1, c2, c3, c4⟩
  refine ⟨b', rfl, ⟨R', _, R2, L2, ⟨c1, c2, fun x hx => ?_⟩, ⟨h2.wr.keep c4 (fun x hx hm => ?_), h2.rf.beside h1.rf h4 h1.wr c4, h2.ge⟩, fun x hx hm => ?_, h4⟩, h.kp.past c4 (fun x hx hl => ?_)⟩
  · rcases List.mem_cons.1 hx with rfl | hx
    · exact h1.ge _ (by simp)
    · rcases c3 x hx with q | q
      · exact h1.ge x (by simp [q])
      · omega
  · rcases List.mem_cons.1 hm with e | hm
    · subst e
      exact h2.wr.notRef h1.rf x hx (by simp)
    · exact h3 x hm hx
  · rcases c3 x hx with q | q
    · exact h3 x q hm
    · have := h2.wr.lt x hm; omega
  · have := h1.ge x hx; omega
theorem Ts.same {w0 W : World} {b1 r1 b2 r2 : Nat} (h : Ts w0 W b1 r1 b2 r2) : ∃ B, Calls Try.prog 11 #[.pointer (some ⟨b1, 0, none⟩), .pointer (some ⟨b2, 0, none⟩)] W (fun e w' => e = .returned (.bool B) ∧ Kp W w' []) ∧ ∀ W', Kp W W' [] → Calls Try.prog 12 #[.pointer (some ⟨r1, 0, none⟩), .pointer (some ⟨r2, 0, none⟩)] W' (fun e w' => e = .returned (.bool B) ∧ Kp W' w' []) := by
  obtain ⟨R1, L1, R2, L2, h1, h2, -, -⟩ := h.ex
  exact ⟨decide (L1 = L2), h1.wr.eq h2.wr, fun W' hk => rsame_any W' r1 r2 L1 L2 (h1.rf.keep hk) (h2.rf.keep hk) h1.wr.ok.len h2.wr.ok.len⟩
theorem Ts.self {w0 W : World} {b1 r1 b2 r2 : Nat} (h : Ts w0 W b1 r1 b2 r2) : Calls Try.prog 11 #[.pointer (some ⟨b1, 0, none⟩), .pointer (some ⟨b1, 0, none⟩)] W (fun e w' => e = .returned (.bool true) ∧ Kp W w' []) := by
  obtain ⟨R1, L1, R2, L2, h1, -, -, -⟩ := h.ex
  have := h1.wr.eq h1.wr
  rw [show decide (L1 = L1) = true from by simp] at this
  exact this
theorem rf_new (W : World) : Rf (W.alloc (.cells #[.slice none 0 0] 28)) W.heap.size [] := ⟨_, heap_alloc_new W _, Dr.nil _ _⟩
end Go.Proofs.Ytcmmckgoiaholaa
