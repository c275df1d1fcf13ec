/-
  PROVED: where the arguments are of bulk at most 1048576, for any bytes and any script of calls, metronomelaw01.WireReads returns true, and the arguments read afterwards as they did: reading any bytes call by call answers just what the chapter says, leaves the reader where it must be, and neither keeps nor changes the bytes. Condition: the bound on the bulk (the second form); beyond it a list of numbers, eight bytes each, may pass what one slice can hold.
-/
import Derived.Test.YtnnjfhgdimcieaaBulk
import Derived.Test.YtnnjfhgdimcieaaReadsWalk
namespace Go.Proofs.Ytnnjfhgdimcieaa.wireReads
open Go.ChangeShapes Go.WideShapes Go.ChangeAt Go.RowKit Go.Joins Go.Deep
open Go.ChangeMaps (open_string shut_string)
set_option linter.unusedVariables false

/-- A slice that came in lies in memory that is there. -/
theorem ok_block {P : Program} {W : World} {base : Nat} {t e : TypeId} {v : Value} (ht : P.underlying t = some (.slice e)) (h : Value.okWide P W .any base t v) : ∀ k, v.ownBlock = some k → k < W.heap.size := by
  intro k hk
  obtain ⟨a, len, cap, rfl⟩ := okWide_slice ht h
  cases a with
  | none => simp [Value.ownBlock] at hk
  | some a =>
    simp only [Value.ownBlock, Option.some.injEq] at hk
    subst hk
    simp only [Value.okWide, ht, Cell.okWide, Cell.ok] at h
    obtain ⟨-, -, -, -, row, cells, hs, -⟩ := h
    rcases Nat.lt_or_ge a.block W.heap.size with hlt | hge
    · exact hlt
    · have hn : W.heap[a.block]? = none := Array.getElem?_eq_none hge
      simp [World.shape?, hn] at hs

theorem list2 {α : Type} {l : List α} (h : l.length = 2) : ∃ a b, l = [a, b] := by
  match l, h with
  | [a, b], _ => exact ⟨a, b, rfl⟩

theorem op_of_trod {H : Type} {enc : TypeId × Value → H} {W : World} {base fuel : Nat} {spare : TypeId → Bool} {held : Bool} {cs : List Value} {d : DataW H} {p : List MemPlace}
    (hf : DataW.trod enc Try.prog W base spare held fuel 43 cs = some (d, p)) : ∃ s : Int × Int, s.2 ≤ 9223372036854775807 ∧ cs = [.int .i64 s.1, .int .i64 s.2] := by
  obtain ⟨xs, m, -, hx, hlen, hl, hi⟩ := DataW.trod_struct Try.underlying43 hf
  have hC : Try.prog.cellsOf 43 = 2 := by kernel_rfl
  rw [hC] at hlen
  obtain ⟨c0, c1, rfl⟩ := list2 hlen
  obtain ⟨y0, y1, rfl⟩ := list2 (l := xs) (by simpa using hl)
  have k3 : Try.prog.cellsOf 3 = 1 := by kernel_rfl
  have i0 : DataW.trod enc Try.prog W base spare held m 3 (List.take (Try.prog.cellsOf 3) (List.drop 0 [c0, c1])) = some y0 := hi 0 _ rfl
  have i1 : DataW.trod enc Try.prog W base spare held m 3 (List.take (Try.prog.cellsOf 3) (List.drop 1 [c0, c1])) = some y1 := hi 1 _ rfl
  rw [k3] at i0 i1
  obtain ⟨k, e0, -, w0⟩ := DataW.trod_int Try.underlying3 i0
  obtain ⟨a, e1, -, w1⟩ := DataW.trod_int Try.underlying3 i1
  simp at e0 e1
  subst e0 e1
  exact ⟨(k, a), (bounds_i64 w1).2, rfl⟩

theorem sc_of_trod {H : Type} {enc : TypeId × Value → H} {W : World} {base fuel : Nat} {spare : TypeId → Bool} {held : Bool} {V : Value} {d : DataW H} {p : List MemPlace}
    (hf : DataW.trod enc Try.prog W base spare held fuel 35 [V] = some (d, p)) : ∃ n S, Sc W V n S ∧ n ≤ maxLen := by
  rcases Go.Deep.open_slice Try.underlying35 hf with ⟨hcs, hx⟩ | ⟨a, len, cap, m, nf, D, Pl, hcs, hb, hl, hm, hmm, hx, hel⟩
  · simp only [List.cons.injEq, and_true] at hcs
    subst hcs
    exact ⟨0, fun _ => (0, 0), ⟨none, 0, rfl, Nat.le_refl _, fun h => by omega, fun i hi => by omega⟩, by unfold maxLen; omega⟩
  · simp only [List.cons.injEq, and_true] at hcs
    subst hcs
    have hC : Try.prog.cellsOf 43 = 2 := by kernel_rfl
    rw [hC] at hel
    have hlm : len ≤ m := by rw [hmm]; split <;> omega
    obtain ⟨S, hS⟩ := Go.Deep.choose_lt (n := len) (p := fun i (s : Int × Int) => s.2 ≤ 9223372036854775807 ∧ W.cells? base (a.add (i * 2)) 2 = some [.int .i64 s.1, .int .i64 s.2]) (fun i hi => by
      obtain ⟨cs', h1, h2⟩ := hel i (by omega)
      obtain ⟨s, hs, rfl⟩ := op_of_trod h2
      exact ⟨s, hs, h1⟩)
    refine ⟨len, S, ⟨some a, cap, rfl, hl, fun h0 => ?_, fun i hi => (hS i hi).1⟩, by omega⟩
    obtain ⟨b, off, spot⟩ := a
    have hspot : spot = none := by
      have := (World.cells?_some (hS 0 h0).2).2.2 0 (by decide)
      have h2 := World.cell?_spot (v := .int .i64 (S 0).1) (by simpa using this)
      simpa [Addr.add] using h2
    subst hspot
    refine ⟨b, off, rfl, fun i hi => ?_⟩
    have hc := (World.cells?_some (hS i hi).2).2.2
    simp only [Addr.add_lit] at hc
    exact ⟨hc 0 (by decide), hc 1 (by decide)⟩

set_option maxRecDepth 100000 in
theorem contract (H : Type) (enc : TypeId × Value → H) (W : World) (base : Nat) (args : Array Value) (ds gs : List (DataW H)) (before : List MemPlace)
    (hval : ∀ (j : Nat) t v, Try.f4.params[j]? = some t → args[j]? = some v → Value.okWide Try.prog W .any base t v)
    (hW : DataW.Whole enc Try.prog Try.f4.params.toList Rows.wireReadsSpec.vars false W args.toList ds gs before) (hk : Rows.uptoSmall H (ds ++ gs) = true) :
    Calls Try.prog 4 args W fun e W' => ∃ v, e = .returned v ∧ Rows.wireReadsSpec.post enc Try.prog Try.f4 false true false false W args v W' := by
  have hW' := hW
  obtain ⟨p, q, hA0, hV, rfl, hfz, hnd⟩ := hW
  have hA : DataW.TrodAll enc Try.prog W 0 (fun _ => true) true Try.f4.params.toList args.toList ds p := hA0
  rw [Try.params4] at hA hval
  obtain ⟨v0, vs0, d0, ds0, p0, q0, hargs, rfl, rfl, h0, r0⟩ := trodAll_cons hA
  obtain ⟨v1, vs1, d1, ds1, p1, q1, rfl, rfl, rfl, h1, r1⟩ := trodAll_cons r0
  obtain ⟨rfl, rfl, rfl⟩ := trodAll_nil r1
  obtain rfl : args = #[v0, v1] := by cases args; simp_all
  obtain ⟨rfl, rfl⟩ := trodVars_none hV
  have k0 := h0
  have lt0 : ∀ x ∈ p0, x.block < W.heap.size := by obtain ⟨m, hm⟩ := k0; exact DataW.trod_lt m _ _ _ hm
  have k1 := h1
  have lt1 : ∀ x ∈ p1, x.block < W.heap.size := by obtain ⟨m, hm⟩ := k1; exact DataW.trod_lt m _ _ _ hm
  obtain ⟨m0, f0⟩ := h0
  obtain ⟨l, hB, hyB, hdB⟩ := bs_of_trod (v := v0) (by
    obtain ⟨a1, len1, cap1, rfl⟩ := okWide_slice Try.underlying23 (hval 0 23 v0 rfl rfl)
    simpa [Value.cells] using f0)
  obtain ⟨m1, f1⟩ := h1
  obtain ⟨N, S, hS, hN⟩ := sc_of_trod (V := v1) (d := d1) (p := p1) (by
    obtain ⟨a1, len1, cap1, rfl⟩ := okWide_slice Try.underlying35 (hval 1 35 v1 rfl rfl)
    simpa [Value.cells] using f1)
  have hbk : Rows.uptoBulkAll [d0, d1] ≤ 1048576 := of_decide_eq_true hk
  have hB1 := bulk_bytes hdB
  simp only [Rows.uptoBulkAll] at hbk
  clear hA0
  refine (reads_walk W v0 l v1 N S hB hyB (by omega) (ok_block Try.underlying23 (hval 0 23 v0 rfl rfl)) hS (by unfold maxLen at hN; omega)).mono fun e W' ⟨he, hg⟩ => ?_
  subst he
  have bel := below_of hg
  exact ⟨_, rfl, _, _, _, [], _, [], hW', trodAll_mk1 (shut_bool Try.underlying4 _), (trodAll_cons_mk (Below.trod laidOut (by kernel_rfl) (of_decide_eq_true (by kernel_rfl)) k0 bel lt0) (trodAll_cons_mk (Below.trod laidOut (by kernel_rfl) (of_decide_eq_true (by kernel_rfl)) k1 bel lt1) trodAll_mk0)), rfl, bel.frame _, fun h => by cases h⟩

set_option maxRecDepth 100000 in
theorem lifted (os : Os) (started : os.Started) (H : Type) (enc : TypeId × Value → H) (F : Stop.Interp) :
    ReturnsInHanded {} Try.checked os 4 .any ((Rows.OpenSpec.upto Rows.wireReadsSpec).pre6 enc Try.prog Try.f4 Rows.wireReadsUptoRow.domain false) (((Rows.OpenSpec.upto Rows.wireReadsSpec).at F).post enc Try.prog Try.f4 false true false false) := by
  refine returnsInHanded_of_cond (C := Try.checked) (s := Rows.OpenSpec.upto Rows.wireReadsSpec) (k := Rows.uptoSmall) rfl own started (by kernel_rfl) Try.func4
    (OpenSpec.witness (enc := enc) (C := Try.checked) (s := Rows.OpenSpec.upto Rows.wireReadsSpec) (k := Rows.uptoSmall) rfl false ⟨#[], #[.slice none 0 0, .slice none 0 0], []⟩ 8 (by kernel_rfl) (by kernel_rfl) (by kernel_rfl)
      (x := ([.nil, .nil], [], [])) (by kernel_rfl) rfl (by kernel_rfl)) ?_
  intro W base args ds gs before hval hW _ hk _
  exact contract H enc W base args ds gs before hval hW hk
end Go.Proofs.Ytnnjfhgdimcieaa.wireReads

namespace Go.Proofs.Ytnnjfhgdimcieaa
theorem wireReads_upto : Rows.WireReadsUptoSaid :=
  OpenClaim.holds_of_cond 4 Try.f4 rfl rfl rfl rfl rfl rfl rfl ⟨rfl, rfl, rfl, rfl, rfl⟩ rfl rfl rfl rfl rfl (by kernel_rfl) Try.func4 (by kernel_rfl)
    (of_decide_eq_true (by kernel_rfl)) (by unfold Func.isWrapper; first | (rw [if_pos (by decide +kernel)]; kernel_rfl) | (rw [if_neg (by decide +kernel)]; exact ⟨rfl, rfl⟩))
    (fun os started H enc _ F => wireReads.lifted os started H enc F)
#print axioms wireReads_upto
end Go.Proofs.Ytnnjfhgdimcieaa
