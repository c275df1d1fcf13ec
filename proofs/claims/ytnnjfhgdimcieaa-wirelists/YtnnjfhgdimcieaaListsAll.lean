/-
  PROVED: for any list of pairs and any place to cut, metronomelaw01.WireLists returns true, and the arguments read afterwards as they did: a list is put as its count and its elements, is taken back the same, is refused as too many where one fewer is allowed and as cut short where its form is cut anywhere, and what is refused leaves the reader as it was. No condition beyond the form's own reach of each slice.
-/
import Derived.Test.YtnnjfhgdimcieaaArgs
import Derived.Test.YtnnjfhgdimcieaaListsWalk
import Derived.Deep.Slices
namespace Go.Proofs.Ytnnjfhgdimcieaa.wireLists
open Go.ChangeShapes Go.WideShapes Go.ChangeAt Go.RowKit Go.Joins Go.Deep
open Go.ChangeMaps (open_string shut_string)
set_option linter.unusedVariables false

theorem list2 {α : Type} {l : List α} (h : l.length = 2) : ∃ a b, l = [a, b] := by
  match l, h with
  | [a, b], _ => exact ⟨a, b, rfl⟩

theorem pair_of_trod {H : Type} {enc : TypeId × Value → H} {W : World} {base fuel : Nat} {spare : TypeId → Bool} {held : Bool} {cs : List Value} {d : DataW H} {p : List MemPlace}
    (hf : DataW.trod enc Try.prog W base spare held fuel 59 cs = some (d, p)) : ∃ s : Nat × Nat, Pr s ∧ cs = [.int .u64 (s.1 : Int), .int .u64 (s.2 : Int)] := by
  obtain ⟨xs, m, -, hx, hlen, hl, hi⟩ := DataW.trod_array Try.underlying59 hf
  have hC : Try.prog.cellsOf 59 = 2 := by kernel_rfl
  rw [hC] at hlen
  obtain ⟨c0, c1, rfl⟩ := list2 hlen
  obtain ⟨y0, y1, rfl⟩ := list2 (l := xs) (by simpa using hl)
  have k3 : Try.prog.cellsOf 22 = 1 := by kernel_rfl
  rw [k3] at hi
  have i0 : DataW.trod enc Try.prog W base spare held m 22 [c0] = some y0 := hi 0 (by decide)
  have i1 : DataW.trod enc Try.prog W base spare held m 22 [c1] = some y1 := hi 1 (by decide)
  obtain ⟨k, e0, -, w0⟩ := DataW.trod_int Try.underlying22 i0
  obtain ⟨a, e1, -, w1⟩ := DataW.trod_int Try.underlying22 i1
  simp at e0 e1
  subst e0 e1
  have b0 := bounds_u64 w0
  have b1 := bounds_u64 w1
  refine ⟨(k.toNat, a.toNat), ⟨?_, ?_⟩, ?_⟩
  · show k.toNat < 18446744073709551616
    omega
  · show a.toNat < 18446744073709551616
    omega
  · rw [Int.toNat_of_nonneg (by omega), Int.toNat_of_nonneg (by omega)]

theorem ps_of_trod {H : Type} {enc : TypeId × Value → H} {W : World} {base fuel : Nat} {spare : TypeId → Bool} {held : Bool} {V : Value} {d : DataW H} {p : List MemPlace}
    (hf : DataW.trod enc Try.prog W base spare held fuel 58 [V] = some (d, p)) (hsz : ∀ q ∈ d.weights Try.prog 58, q ≤ reachBytes) : ∃ ps, Ps W V ps ∧ (∀ p ∈ ps, Pr p) ∧ ps.length ≤ 8796093021952 := by
  rcases Go.Deep.open_slice Try.underlying58 hf with ⟨hcs, hx⟩ | ⟨a, len, cap, m, nf, D, Pl, hcs, hb, hl, hm, hmm, hx, hel⟩
  · simp only [List.cons.injEq, and_true] at hcs
    subst hcs
    exact ⟨[], ⟨none, 0, rfl, Nat.le_refl _, fun _ => rfl, fun h => by simp at h⟩, fun p hp => by simp at hp, by simp⟩
  · simp only [List.cons.injEq, and_true] at hcs
    subst hcs
    simp only [Prod.mk.injEq] at hx
    have hd := hx.1
    have hC : Try.prog.cellsOf 59 = 2 := by kernel_rfl
    rw [hC] at hel
    have hlm : len ≤ m := by rw [hmm]; split <;> omega
    obtain ⟨S, hS⟩ := Go.Deep.choose_lt (n := len) (p := fun i (s : Nat × Nat) => Pr s ∧ W.cells? base (a.add (i * 2)) 2 = some [.int .u64 (s.1 : Int), .int .u64 (s.2 : Int)]) (fun i hi => by
      obtain ⟨cs', h1, h2⟩ := hel i (by omega)
      obtain ⟨s, hs, rfl⟩ := pair_of_trod h2
      exact ⟨s, hs, h1⟩)
    have hlen : ((List.range len).map S).length = len := by simp
    refine ⟨(List.range len).map S, ⟨some a, cap, by rw [hlen], by rw [hlen]; exact hl, fun h => by simp at h, fun h0 => ?_⟩, fun p hp => ?_, ?_⟩
    · rw [hlen] at h0
      obtain ⟨b, off, spot⟩ := a
      have hspot : spot = none := by
        have := (World.cells?_some (hS 0 h0).2).2.2 0 (by decide)
        have h2 := World.cell?_spot (v := .int .u64 ((S 0).1 : Int)) (by simpa using this)
        simpa [Addr.add] using h2
      subst hspot
      refine ⟨b, off, rfl, fun i hi => ?_⟩
      rw [hlen] at hi
      have hc := (World.cells?_some (hS i hi).2).2.2
      simp only [Addr.add_lit] at hc
      have e : ((List.range len).map S).getD i (0, 0) = S i := by simp [List.getD, hi]
      rw [e]
      exact ⟨hc 0 (by decide), hc 1 (by decide)⟩
    · simp only [List.mem_map, List.mem_range] at hp
      obtain ⟨i, hi, rfl⟩ := hp
      exact (hS i hi).1
    · have hb59 : Try.prog.bytesOf 59 = 16 := by kernel_rfl
      have h1 := hsz ((((List.range len).map D).length + ((List.range (m - len)).map fun j => D (len + j)).length) * Try.prog.bytesOf 59) (by
        rw [hd]
        simp [DataW.weights, Try.underlying58])
      rw [hb59] at h1
      simp only [reachBytes, List.length_map, List.length_range] at h1
      rw [hlen]
      omega

set_option maxRecDepth 100000 in
theorem lifted (os : Os) (started : os.Started) (H : Type) (enc : TypeId × Value → H) :
    ReturnsInHanded {} Try.checked os 6 .any (Rows.wireListsSpec.pre6 enc Try.prog Try.f6 Rows.wireListsRow.domain false) (Rows.wireListsSpec.post enc Try.prog Try.f6 false true false false) := by
  refine returnsInHanded_of_change_sized (C := Try.checked) own started (by kernel_rfl) Try.func6
    (ChangeSpec.witness6 (enc := enc) (C := Try.checked) false ⟨#[], #[.slice none 0 0, .int .i64 0], []⟩ 8 (by kernel_rfl) (by kernel_rfl) (by kernel_rfl) (by kernel_rfl)) ?_
  intro W base args ds gs before hval0 hW hcnd hsz0 _
  have hval : ∀ (j : Nat) t v, Try.f6.params[j]? = some t → args[j]? = some v → Value.okWide Try.prog W .any base t v := hval0
  have hsz : (DataW.weightsEach Try.prog (Try.f6.params.toList ++ Rows.wireListsSpec.plain.varTypes Try.prog) (ds ++ gs)).all (· ≤ reachBytes) = true := hsz0
  have hW' := hW
  obtain ⟨p, q, hA0, hV, rfl, hfz, hnd⟩ := hW
  have hA : DataW.TrodAll enc Try.prog W 0 (fun _ => true) true Try.f6.params.toList args.toList ds p := hA0
  rw [Try.params6] at hA hval hsz
  obtain ⟨v0, vs0, d0, ds0, p0, q0, hargs, rfl, rfl, h0, r0⟩ := trodAll_cons hA
  obtain ⟨v1, vs1, d1, ds1, p1, q1, rfl, rfl, rfl, h1, r1⟩ := trodAll_cons r0
  obtain ⟨rfl, rfl, rfl⟩ := trodAll_nil r1
  obtain rfl : args = #[v0, v1] := by cases args; simp_all
  obtain ⟨rfl, rfl⟩ := trodVars_none hV
  have k0 := h0
  have lt0 : ∀ x ∈ p0, x.block < W.heap.size := by obtain ⟨m, hm⟩ := k0; exact DataW.trod_lt m _ _ _ hm
  have k1 := h1
  have lt1 : ∀ x ∈ p1, x.block < W.heap.size := by obtain ⟨m, hm⟩ := k1; exact DataW.trod_lt m _ _ _ hm
  obtain ⟨m0, f0⟩ := h0
  obtain ⟨ps, hP, hpr, hpl⟩ := ps_of_trod (V := v0) (d := d0) (p := p0) (by
    obtain ⟨a1, len1, cap1, rfl⟩ := okWide_slice Try.underlying58 (hval 0 58 v0 rfl rfl)
    simpa [Value.cells] using f0) (fun q hq => by
      have := List.all_eq_true.1 hsz _ (DataW.weights_mem_each (j := 0) (t := 58) rfl rfl q hq)
      simpa using this)
  obtain ⟨m1, f1⟩ := h1
  obtain ⟨cut, rfl⟩ := okWide_int Try.underlying3 (hval 1 3 v1 rfl rfl)
  obtain ⟨cut', x1, z1, hw1⟩ := DataW.trod_int Try.underlying3 (show DataW.trod enc Try.prog W 0 (fun _ => true) true m1 3 [.int .i64 cut] = some (d1, p1) by simpa [Value.cells] using f1)
  simp only [List.cons.injEq, Value.int.injEq, true_and, and_true] at x1
  subst x1
  have hcb := bounds_i64 hw1
  clear hA0 hval0
  refine (lists_walk W v0 ps cut hP hpr hpl hcb.1 hcb.2).mono fun e W' ⟨he, hg⟩ => ?_
  subst he
  have bel := below_of hg
  exact ⟨_, rfl, _, _, _, [], _, [], hW', trodAll_mk1 (shut_bool Try.underlying4 _), (trodAll_cons_mk (Below.trod laidOut (by kernel_rfl) (of_decide_eq_true (by kernel_rfl)) k0 bel lt0) (trodAll_cons_mk (Below.trod laidOut (by kernel_rfl) (of_decide_eq_true (by kernel_rfl)) k1 bel lt1) trodAll_mk0)), rfl, bel.frame _, fun h => by cases h⟩

theorem over : Rows.wireListsRow.holds Try.pinned (OpenSpec.ofChange Rows.wireListsSpec) :=
  OpenClaim.holds_of_wide 6 Try.f6 rfl rfl rfl rfl rfl rfl rfl ⟨rfl, rfl, rfl, rfl, rfl⟩ rfl rfl rfl rfl rfl (by kernel_rfl) Try.func6 (by kernel_rfl)
    (of_decide_eq_true (by kernel_rfl)) (by unfold Func.isWrapper; first | (rw [if_pos (by decide +kernel)]; kernel_rfl) | (rw [if_neg (by decide +kernel)]; exact ⟨rfl, rfl⟩))
    (fun os started H enc _ => lifted os started H enc)
end Go.Proofs.Ytnnjfhgdimcieaa.wireLists

namespace Go.Proofs.Ytnnjfhgdimcieaa
theorem wireLists_holds : Rows.WireListsSaid := wireLists.over
#print axioms wireLists_holds
end Go.Proofs.Ytnnjfhgdimcieaa
