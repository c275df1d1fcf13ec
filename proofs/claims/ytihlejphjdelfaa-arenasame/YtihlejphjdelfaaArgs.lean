/- A script that came in, read. -/
import Derived.Test.YtihlejphjdelfaaMuch
import Derived.WalkKit
import Derived.ProofKit
import Derived.OpenShut
import Derived.ShutString
import Derived.ChangeOld
import Derived.Below
import Derived.SizedLaws
import Derived.Deep.Slices
namespace Go.Proofs.Ytihlejphjdelfaa
open Go.ChangeShapes Go.WideShapes Go.ChangeAt Go.RowKit
set_option linter.unusedVariables false

theorem own : ownKnob Try.prog.godebug = none := by kernel_rfl
theorem laidOut : laidOutB Try.prog = true := by kernel_rfl
theorem Try.bytes5 : Try.prog.bytesOf 5 = 1 := by kernel_rfl

/-- A slice of bytes that came in, read. -/
theorem bs_of_trod {H : Type} {enc : TypeId × Value → H} {W : World} {base fuel : Nat} {spare : TypeId → Bool} {held : Bool} {v : Value} {d : DataW H} {p : List MemPlace}
    (hf : DataW.trod enc Try.prog W base spare held fuel 36 [v] = some (d, p)) :
    ∃ l, Bs W v l ∧ Byt l ∧ ((l = [] ∧ d = .nil) ∨ ∃ es sp, d = .slice es sp ∧ l.length = es.length) := by
  rcases open_ints Try.underlying36 Try.underlying5 (by kernel_rfl) hf with ⟨hcs, hx⟩ | ⟨x, l, c, zs, hcs, _, hl, hm, hz, hx, hcell, hwz⟩
  · simp only [List.cons.injEq, and_true] at hcs
    subst hcs
    simp only [Prod.mk.injEq] at hx
    exact ⟨[], ⟨none, 0, rfl, by simp, fun _ => rfl, fun h => absurd rfl h⟩, fun x hx => by simp at hx, .inl ⟨rfl, hx.1⟩⟩
  · simp only [List.cons.injEq, and_true] at hcs
    subst hcs
    simp only [Prod.mk.injEq] at hx
    have hlz : l ≤ zs.length := by rw [hz]; split <;> omega
    have hlt : (zs.take l).length = l := by simp; omega
    refine ⟨zs.take l, ⟨some x, c, by rw [hlt], by omega, by simp, fun hne => ?_⟩, fun n hn => ?_, .inr ⟨_, _, hx.1, by simp [lits]⟩⟩
    · obtain ⟨b, off, spot⟩ := x
      have hpos : 0 < zs.length := by
        rcases Nat.eq_zero_or_pos zs.length with h0 | h0
        · have : zs = [] := List.eq_nil_of_length_eq_zero h0
          subst this
          simp at hne
        · exact h0
      have hc0 := hcell 0 hpos
      have hspot : spot = none := by simpa [Addr.add] using World.cell?_spot hc0
      subst hspot
      refine ⟨b, off, rfl, fun i hi => ?_⟩
      have := hcell i (by omega)
      rw [Addr.add_lit] at this
      rw [this]
      simp [List.getD, show i < l by omega]
    · have := hwz n (List.mem_of_mem_take hn)
      have hb := bounds_u8 this
      exact ⟨by omega, by omega⟩

theorem weightsAll_mem {H : Type} {P : Program} {e : TypeId} {d : DataW H} {n : Nat} (hn : n ∈ d.weights P e) : ∀ {ds : List (DataW H)}, d ∈ ds → n ∈ DataW.weightsAll P e ds
  | [], h => by simp at h
  | d' :: r, h => by
    rw [DataW.weightsAll]
    rcases List.mem_cons.1 h with rfl | h
    · exact List.mem_append_left _ hn
    · exact List.mem_append_right _ (weightsAll_mem hn h)

theorem list5 {α : Type} {l : List α} (h : l.length = 5) : ∃ a b c d e, l = [a, b, c, d, e] := by
  match l, h with
  | [a, b, c, d, e], _ => exact ⟨a, b, c, d, e, rfl⟩

theorem step_of_trod {H : Type} {enc : TypeId × Value → H} {W : World} {base fuel : Nat} {spare : TypeId → Bool} {held : Bool} {cs : List Value} {d : DataW H} {p : List MemPlace}
    (hf : DataW.trod enc Try.prog W base spare held fuel 38 cs = some (d, p)) (hsz : ∀ q ∈ d.weights Try.prog 38, q ≤ reachBytes) :
    ∃ s : St, s.fit W ∧ cs = [.int .i64 s.k, .int .i64 s.a, .int .i64 s.m, .int .u32 s.x, s.v] := by
  obtain ⟨xs, m, -, hx, hlen, hl, hi⟩ := DataW.trod_struct Try.underlying38 hf
  have hC : Try.prog.cellsOf 38 = 5 := by kernel_rfl
  rw [hC] at hlen
  obtain ⟨c0, c1, c2, c3, c4, rfl⟩ := list5 hlen
  obtain ⟨y0, y1, y2, y3, y4, rfl⟩ := list5 (l := xs) (by simpa using hl)
  have k3 : Try.prog.cellsOf 3 = 1 := by kernel_rfl
  have k35 : Try.prog.cellsOf 35 = 1 := by kernel_rfl
  have k36 : Try.prog.cellsOf 36 = 1 := by kernel_rfl
  have i0 : DataW.trod enc Try.prog W base spare held m 3 (List.take (Try.prog.cellsOf 3) (List.drop 0 [c0, c1, c2, c3, c4])) = some y0 := hi 0 _ rfl
  rw [k3] at i0
  have i1 : DataW.trod enc Try.prog W base spare held m 3 (List.take (Try.prog.cellsOf 3) (List.drop 1 [c0, c1, c2, c3, c4])) = some y1 := hi 1 _ rfl
  rw [k3] at i1
  have i2 : DataW.trod enc Try.prog W base spare held m 3 (List.take (Try.prog.cellsOf 3) (List.drop 2 [c0, c1, c2, c3, c4])) = some y2 := hi 2 _ rfl
  rw [k3] at i2
  have i3 : DataW.trod enc Try.prog W base spare held m 35 (List.take (Try.prog.cellsOf 35) (List.drop 3 [c0, c1, c2, c3, c4])) = some y3 := hi 3 _ rfl
  rw [k35] at i3
  have i4 : DataW.trod enc Try.prog W base spare held m 36 (List.take (Try.prog.cellsOf 36) (List.drop 4 [c0, c1, c2, c3, c4])) = some y4 := hi 4 _ rfl
  rw [k36] at i4
  obtain ⟨k, e0, -, w0⟩ := DataW.trod_int Try.underlying3 i0
  obtain ⟨a, e1, -, w1⟩ := DataW.trod_int Try.underlying3 i1
  obtain ⟨n, e2, -, w2⟩ := DataW.trod_int Try.underlying3 i2
  obtain ⟨x, e3, -, w3⟩ := DataW.trod_int Try.underlying35 i3
  simp at e0 e1 e2 e3
  subst e0 e1 e2 e3
  obtain ⟨d4, p4⟩ := y4
  obtain ⟨l, hb, hy, hd⟩ := bs_of_trod (v := c4) i4
  have b0 := bounds_i64 w0
  have b1 := bounds_i64 w1
  have b2 := bounds_i64 w2
  have b3 := bounds_u32 w3
  have hb' := hb
  obtain ⟨ao, cp, rfl, -⟩ := hb'
  have hml : l.length ≤ 140737488351232 := by
    rcases hd with ⟨rfl, -⟩ | ⟨es, sp, rfl, hl'⟩
    · simp
    · simp only [Prod.mk.injEq] at hx
      have := hsz ((es.length + sp.length) * Try.prog.bytesOf 5) (by
        rw [hx.1]
        simp [DataW.weights, DataW.weightsEach, Try.underlying38, Try.underlying36])
      rw [Try.bytes5] at this
      simp only [reachBytes] at this
      omega
  exact ⟨⟨k, a, n, x, ao, cp, l⟩, ⟨hb, hy, hml, b0, b1, b2, b3.1, (by show x < 4294967296; omega)⟩, rfl⟩

theorem sc_of_trod {H : Type} {enc : TypeId × Value → H} {W : World} {base fuel : Nat} {spare : TypeId → Bool} {held : Bool} {V : Value} {d : DataW H} {p : List MemPlace}
    (hf : DataW.trod enc Try.prog W base spare held fuel 22 [V] = some (d, p)) (hsz : ∀ q ∈ d.weights Try.prog 22, q ≤ reachBytes) : ∃ n S, Sc W V n S ∧ n ≤ maxLen := by
  rcases Go.Deep.open_slice Try.underlying22 hf with ⟨hcs, hx⟩ | ⟨a, len, cap, m, nf, D, Pl, hcs, hb, hl, hm, hmm, hx, hel⟩
  · simp only [List.cons.injEq, and_true] at hcs
    subst hcs
    exact ⟨0, fun _ => ⟨0, 0, 0, 0, none, 0, []⟩, ⟨none, 0, rfl, Nat.le_refl _, fun h => by omega, fun i hi => by omega⟩, by unfold maxLen; omega⟩
  · simp only [List.cons.injEq, and_true] at hcs
    subst hcs
    have hC : Try.prog.cellsOf 38 = 5 := by kernel_rfl
    rw [hC] at hel
    simp only [Prod.mk.injEq] at hx
    have hlm : len ≤ m := by rw [hmm]; split <;> omega
    haveI : Inhabited St := ⟨⟨0, 0, 0, 0, none, 0, []⟩⟩
    obtain ⟨S, hS⟩ := Go.Deep.choose_lt (n := len) (p := fun i (s : St) => s.fit W ∧ W.cells? base (a.add (i * 5)) 5 = some [.int .i64 s.k, .int .i64 s.a, .int .i64 s.m, .int .u32 s.x, s.v]) (fun i hi => by
      obtain ⟨cs', h1, h2⟩ := hel i (by omega)
      obtain ⟨s, hs, rfl⟩ := step_of_trod h2 (fun q hq => by
        refine hsz q ?_
        rw [hx.1]
        simp only [DataW.weights, Try.underlying22]
        exact List.mem_cons_of_mem _ (List.mem_append_left _ (weightsAll_mem hq (List.mem_map.2 ⟨i, List.mem_range.2 hi, rfl⟩))))
      exact ⟨s, hs, h1⟩)
    refine ⟨len, S, ⟨some a, cap, rfl, hl, fun h0 => ?_, fun i hi => (hS i hi).1⟩, by omega⟩
    obtain ⟨b, off, spot⟩ := a
    have hspot : spot = none := by
      have := (World.cells?_some (hS 0 h0).2).2.2 0 (by decide)
      have h2 := World.cell?_spot (v := .int .i64 (S 0).k) (by simpa using this)
      simpa [Addr.add] using h2
    subst hspot
    refine ⟨b, off, rfl, fun i hi => ?_⟩
    have hc := (World.cells?_some (hS i hi).2).2.2
    simp only [Addr.add_lit] at hc
    exact ⟨hc 0 (by decide), hc 1 (by decide), hc 2 (by decide), hc 3 (by decide), hc 4 (by decide)⟩
end Go.Proofs.Ytihlejphjdelfaa
