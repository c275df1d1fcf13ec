/- A slice in a box that a range's rounds append to. -/
import Derived.Test.YtomdnppnabncaaaPl
import Derived.Shelf.RegionOpen
namespace Go.Proofs.Ytomdnppnabncaaa
open Go.RowKit Go.Shelf
open Go.Lib hiding intOf
attribute [local go_sem] Oper.semAt_some

theorem wpListIn_pushI {F : Fence} {n : Nat} {ops : Array Oper} {rest : List Oper} {o : Oper} {a : Act} {W : World} {Q : Exit → Act → World → Prop} (hgd : o.guard = none) (s x : Operand)
    (ho : o.op = .call { callee := .builtin .append, args := #[s, x], argTypes := #[35, 35] }) (base : Nat) (V : Value) (l : List Int) (h : Int) (g : Nat)
    (hs : a.eval s = V) (hown : Ns W base V l) (hx : a.eval x = .slice (some ⟨g, 0, none⟩) 1 1) (hc : W.cell? ⟨g, 0, none⟩ = some (.int .i64 h)) (hm : l.length ≤ 100000) (hb : base ≤ W.heap.size)
    (K : ∀ v' w', Ns w' base v' (l ++ [h]) → W.grownBy w' V.ownBlock → wpListIn F n Try.prog ops Q rest (a.put o.dst v') w') :
    wpListIn F n Try.prog ops Q (o :: rest) a W := by
  obtain ⟨i0, hi, hz0, hz1, hz2⟩ := info_parts Try.infoI
  exact wpListIn_append_own _ hgd s x 35 ho base 3 i0 (.int .i64 0) 1 8 Try.underlying35 hi hz0 hz1 hz2 rfl (by decide) V l.length (icells l) hs hown ⟨g, 0, none⟩ 1 1 [.int .i64 h] hx rfl (by
      intro j u hu
      match j with
      | 0 =>
        simp at hu
        subst hu
        rw [Addr.add_lit]
        exact hc
      | j + 1 => simp at hu) (by simp; rfl) (by unfold maxLen; omega) (by omega) hb (fun v' w' h1 h2 _ => K v' w' (Ns.push h1) h2)
theorem owns_kept {W W' : World} {row : Option Nat} {B base e s n : Nat} {v : Value} {xs : List Value} (h : W.ownsRow base e s v n xs) (hg : W.grownBy W' row) (hr : ∀ r, row = some r → B ≤ r ∧ ∃ o : Obj, W.heap[r]? = some o ∧ o.isCells = false) : W'.ownsRow base e s v n xs := by
  refine ⟨h.1, ?_⟩
  rcases h.2 with q | ⟨g, cap, cur, rfl, h1, h2, h3⟩
  · exact .inl q
  · exact .inr ⟨g, cap, cur, rfl, h1, cells_kept h2 hg hr, h3⟩
theorem owns_putObj {W : World} {E base e s n : Nat} {v : Value} {xs : List Value} {o o' : Obj} (h : W.ownsRow base e s v n xs) (hE : W.heap[E]? = some o) (hc : o.isCells = false) : (W.putObj E o').ownsRow base e s v n xs := by
  refine ⟨h.1, ?_⟩
  rcases h.2 with q | ⟨g, cap, cur, rfl, h1, h2, h3⟩
  · exact .inl q
  · exact .inr ⟨g, cap, cur, rfl, h1, (World.putObj_heap_other (by rintro rfl; rw [h2] at hE; cases hE; simp [Obj.isCells] at hc)).trans h2, h3⟩
theorem keeps_kp {B : Nat} {W W' : World} {rows : List Nat} (h : Kp W W' rows) (hr : ∀ k ∈ rows, ∃ c t f, W.heap[k]? = some (.cells c t f)) : KeepsFrom B W W' := by
  refine ⟨h.size, fun k o hk ho hc => (h.block k (lt_of_block ho) (fun hm => ?_)).trans ho⟩
  obtain ⟨c, t, f, e⟩ := hr k hm
  rw [e] at ho
  cases ho
  simp [Obj.isCells] at hc
/-- The slice under way: its box at s, its row from D on. -/
structure Bl (w W : World) (s D : Nat) (l : List Int) : Prop where
  ex : ∃ ao n cap, W.heap[s]? = some (.cells #[.slice ao n cap] 35 (0, 0)) ∧ Ns W D (.slice ao n cap) l
  be : Below w.heap.size w W
  sz : D ≤ W.heap.size
theorem Bl.push {w W w3 : World} {s D lo hi n cap : Nat} {ao : Option Addr} {l : List Int} {t : Int} (hs : w.heap.size ≤ s) (hsl : s < lo) (hsD : s < D) (hhD : hi ≤ D) (hsz : D ≤ W.heap.size) (hb : W.heap[s]? = some (.cells #[.slice ao n cap] 35 (0, 0))) (hn : Ns W D (.slice ao n cap) l) (hbe : Below w.heap.size w W) {a3 : Option Addr} {n3 c3 : Nat}
    (h3 : Ns w3 D (.slice a3 n3 c3) (l ++ [t])) (hk : Kp W w3 (Value.ownBlock (.slice ao n cap)).toList) :
    KeepsFrom w.heap.size W (w3.setCell ⟨s, 0, none⟩ (.slice a3 n3 c3)) ∧ Kc lo hi D W (w3.setCell ⟨s, 0, none⟩ (.slice a3 n3 c3)) ∧ Bl w (w3.setCell ⟨s, 0, none⟩ (.slice a3 n3 c3)) s D (l ++ [t]) ∧ w3.cell? ⟨s, 0, none⟩ = some (.slice ao n cap) ∧ w3.frozen? ⟨s, 0, none⟩ = false := by
  have hso : ∀ g, Value.ownBlock (.slice ao n cap) = some g → D ≤ g ∧ ∃ cur, W.heap[g]? = some (.cells cur 3 (0, 0)) := fun g hg => owns_block hn hg
  have hb3 : w3.heap[s]? = some (.cells #[.slice ao n cap] 35 (0, 0)) := (hk.block s (lt_of_block hb) (fun hm => by
    simp at hm
    have := (hso s hm).1
    omega)).trans hb
  have kk : Kp W (w3.setCell ⟨s, 0, none⟩ (.slice a3 n3 c3)) (s :: (Value.ownBlock (.slice ao n cap)).toList) := (hk.mono (by intro k h _; simp at h; simp [h])).trans ((Kp.setCell w3 ⟨s, 0, none⟩ (.slice a3 n3 c3)).mono (by simp))
  refine ⟨keeps_kp kk (fun k hm => ?_), Kc.of_kp kk (fun k hm => ?_), ⟨⟨a3, n3, c3, set_one hb3, ?_⟩, ?_, Nat.le_trans hsz kk.size⟩, cell_one hb3, free_one hb3⟩
  · rcases List.mem_cons.1 hm with rfl | hm
    · exact ⟨_, _, _, hb⟩
    · simp at hm
      obtain ⟨-, cur, hc⟩ := hso k hm
      exact ⟨_, _, _, hc⟩
  · rcases List.mem_cons.1 hm with rfl | hm
    · exact ⟨.inl hsl, .inl (by omega)⟩
    · simp at hm
      obtain ⟨hg, cur, hc⟩ := hso k hm
      refine ⟨.inr (by omega), .inr fun c t f e => ?_⟩
      rw [hc] at e
      simp at e
      exact e.2.1.symm
  · exact h3.kp (Kp.setCell w3 ⟨s, 0, none⟩ _) (fun g hg => by
      have := (owns_block h3 hg).1
      simp; omega)
  · have k2 : Kp w (w3.setCell ⟨s, 0, none⟩ (.slice a3 n3 c3)) [] := (Kp.of_below hbe).past kk (by
      intro k hm hl
      rcases List.mem_cons.1 hm with rfl | hm
      · omega
      · simp at hm
        have := (hso k hm).1
        omega)
    exact k2.below
end Go.Proofs.Ytomdnppnabncaaa
