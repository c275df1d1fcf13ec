/- The reference's graphs, compared whole. -/
import Derived.Test.YtomdnppnabncaaaPl
import Derived.ChangeKeysEq
import Derived.Laws.StructEq
namespace Go.Proofs.Ytomdnppnabncaaa
open Go.RowKit Go.Shelf
open Go.Lib hiding intOf

abbrev vG (G : Gs) : List Value := vcl (gG G) 49 0
theorem vG_range {w : World} {rb : Nat} {G : Gs} (h : Rr w rb G) : w.rangeAt rb 0 (vG G) := by
  intro j v hv
  have hj : j < 49 := by
    rcases Nat.lt_or_ge j 49 with h' | h'
    · exact h'
    · rw [List.getElem?_eq_none (by rw [vcl_length]; exact h')] at hv; cases hv
  rw [vcl_at _ 49 0 j hj, Nat.zero_add] at hv
  rw [Nat.zero_add, vcl_cell h j hj]
  exact hv
theorem size39 (F : Nat → Value) : (Try.prog.info? 39).map (·.size) = some (vcl F 49 0).length := by
  rw [vcl_length]
  kernel_rfl
abbrev vI (f : Nat → Int) : List Value := vcl (fun t => .int .i64 (f t)) 16 0
def sameA (f g : Nat → Int) : Bool := (List.range 16).all fun i => decide (f i = g i)
theorem itemsI (f g : Nat → Int) (w : World) : ∀ is : List Nat, (∀ i ∈ is, i < 16) → (Op.eqItems 9998 3 1 (vI f).toArray (vI g).toArray is).run Try.prog w = .ok (is.all fun i => decide (f i = g i)) w
  | [], _ => by simp [Op.eqItems]
  | i :: is, h => by
    have hi := h i (by simp)
    have ih := itemsI f g w is (fun j hj => h j (by simp [hj]))
    have hp : ∀ f : Nat → Int, (part 3 (vI f).toArray i).run Try.prog w = .ok (.int .i64 (f i)) w := fun f => by
      have h3 : (isAgg 3).run Try.prog w = .ok false w := Try.isAgg3 w
      have e0 := vcl_at (fun t => Value.int .i64 (f t)) 16 0 i hi
      rw [Nat.zero_add] at e0
      simp [part, Sem.run_bind, h3, e0]
    have hq : (Op.equalIn 9998 3 (.int .i64 (f i)) (.int .i64 (g i))).run Try.prog w = .ok (f i == g i) w := run_equalIn_int w 9997 3 .i64 .i64 _ _ Try.underlying3
    simp only [Op.eqItems, Sem.run_bind, Nat.mul_one, hp, hq, Result.andThen_ok]
    by_cases he : f i = g i
    · simp [ih, he]
    · simp [he]
theorem arrI (f g : Nat → Int) (w : World) : (Op.equalIn 9999 37 (.agg (vI f).toArray) (.agg (vI g).toArray)).run Try.prog w = .ok (sameA f g) w := by
  obtain ⟨i0, hi⟩ : ∃ i0, Try.prog.info? 3 = some i0 := ⟨_, rfl⟩
  have hc : Try.prog.cellsOf 3 = 1 := by kernel_rfl
  have h := run_equalIn_array (P := Try.prog) w 9998 (vI f).toArray (vI g).toArray Try.underlying37 hi
  rw [hc, itemsI f g w _ (by simp)] at h
  rw [h]
  rfl
theorem part37 (G : Gs) (o : Nat) (f : Nat → Int) (ho : o + 16 ≤ 49) (h : ∀ t, t < 16 → gG G (o + t) = .int .i64 (f t)) (w : World) : (part 37 (vG G).toArray o).run Try.prog w = .ok (.agg (vI f).toArray) w := by
  have h3 : (isAgg 37).run Try.prog w = .ok true w := by kernel_rfl
  have h4 : (sizeOf 37).run Try.prog w = .ok 16 w := by kernel_rfl
  have e : (vG G).toArray.extract o (o + 16) = (vI f).toArray := by
    apply Array.ext
    · simp [vcl_length]
      omega
    · intro i h1 h2
      have hi : i < 16 := by simpa [vcl_length] using h2
      have a1 := vcl_at (gG G) 49 0 (o + i) (by omega)
      have a2 := vcl_at (fun t => Value.int .i64 (f t)) 16 0 i hi
      rw [Nat.zero_add] at a1 a2
      rw [List.getElem?_eq_some_iff] at a1 a2
      obtain ⟨b1, a1⟩ := a1
      obtain ⟨b2, a2⟩ := a2
      simp only [Array.getElem_extract, List.getElem_toArray]
      rw [a1, a2, h i hi]
  simp only [part, Sem.run_bind, h3, Result.andThen_ok, if_true, h4, Sem.run_pure, e]
theorem part3 (G : Gs) (w : World) : (part 3 (vG G).toArray 0).run Try.prog w = .ok (.int .i64 (G.n : Nat)) w := by
  have h3 : (isAgg 3).run Try.prog w = .ok false w := Try.isAgg3 w
  have e0 := vcl_at (gG G) 49 0 0 (by omega)
  simp only [part, Sem.run_bind, h3, Result.andThen_ok]
  simp [e0, gG]
theorem fields39 : ∃ f0 f1 f2 f3 : Field, (Try.prog.fieldsOf 39).toList = [f0, f1, f2, f3] ∧ (f0.name ≠ "_" ∧ f0.type = 3 ∧ f0.offset = 0) ∧ (f1.name ≠ "_" ∧ f1.type = 37 ∧ f1.offset = 1) ∧ (f2.name ≠ "_" ∧ f2.type = 37 ∧ f2.offset = 17) ∧ (f3.name ≠ "_" ∧ f3.type = 37 ∧ f3.offset = 33) :=
  ⟨_, _, _, _, rfl, ⟨by decide, rfl, rfl⟩, ⟨by decide, rfl, rfl⟩, ⟨by decide, rfl, rfl⟩, ⟨by decide, rfl, rfl⟩⟩
theorem sameG_parts (G H : Gs) : sameG G H = (decide (G.n = H.n) && (sameA G.b H.b && (sameA G.c H.c && sameA G.w H.w))) := by
  rw [Bool.eq_iff_iff, sameG_iff]
  simp only [sameA, Bool.and_eq_true, decide_eq_true_eq, List.all_eq_true, List.mem_range]
  exact ⟨fun h => ⟨h.1, fun t ht => (h.2 t ht).1, fun t ht => (h.2 t ht).2.1, fun t ht => (h.2 t ht).2.2⟩, fun h => ⟨h.1, fun t ht => ⟨h.2.1 t ht, h.2.2.1 t ht, h.2.2.2 t ht⟩⟩⟩
theorem eqF_step {P : Program} {w : World} {d : Nat} {xs ys : Array Value} {f : Field} {fs : List Field} {a b : Value} {r : Bool} (hn : f.name ≠ "_") (h1 : (part f.type xs f.offset).run P w = .ok a w) (h2 : (part f.type ys f.offset).run P w = .ok b w) (h3 : (Op.equalIn d f.type a b).run P w = .ok r w) :
    (Op.eqFields d xs ys (f :: fs)).run P w = if r = true then (Op.eqFields d xs ys fs).run P w else .ok false w := by
  simp only [Op.eqFields, hn, ne_eq, not_false_eq_true, if_true, Sem.run_bind, h1, h2, h3, Result.andThen_ok]
  cases r <;> simp
theorem eqF_nil {P : Program} {w : World} {d : Nat} {xs ys : Array Value} : (Op.eqFields d xs ys []).run P w = .ok true w := by simp [Op.eqFields]
/-- Two of the reference's graphs, compared. -/
theorem eq39 (G H : Gs) (w : World) : (binOp .eql 39 (.agg (vG G).toArray) (.agg (vG H).toArray)).run Try.prog w = .ok (.bool (sameG G H)) w := by
  rw [run_eql_struct, run_equalIn_struct w 9999 39 _ _ (by kernel_rfl) (by kernel_rfl)]
  obtain ⟨f0, f1, f2, f3, e, ⟨a0, b0, c0⟩, ⟨a1, b1, c1⟩, ⟨a2, b2, c2⟩, ⟨a3, b3, c3⟩⟩ := fields39
  have hq : (Op.equalIn 9999 3 (.int .i64 (G.n : Nat)) (.int .i64 (H.n : Nat))).run Try.prog w = .ok (((G.n : Nat) : Int) == ((H.n : Nat) : Int)) w := run_equalIn_int w 9998 3 .i64 .i64 _ _ Try.underlying3
  have p1 := fun G : Gs => part37 G 1 G.b (by omega) (fun t ht => gG_b G ht) w
  have p2 := fun G : Gs => part37 G 17 G.c (by omega) (fun t ht => gG_c G ht) w
  have p3 := fun G : Gs => part37 G 33 G.w (by omega) (fun t _ => gG_w G t) w
  rw [e, sameG_parts]
  have en : (((G.n : Nat) : Int) == ((H.n : Nat) : Int)) = decide (G.n = H.n) := by
    rw [Bool.eq_iff_iff]
    simp only [beq_iff_eq, decide_eq_true_eq]
    omega
  rw [en] at hq
  have q1 := arrI G.b H.b w
  have q2 := arrI G.c H.c w
  have q3 := arrI G.w H.w w
  rw [eqF_step (d := 9999) a0 (b := .int .i64 (H.n : Nat)) (by rw [b0, c0]; exact part3 G w) (by rw [b0, c0]; exact part3 H w) (by rw [b0]; exact hq),
    eqF_step (d := 9999) a1 (by rw [b1, c1]; exact p1 G) (by rw [b1, c1]; exact p1 H) (by rw [b1]; exact q1),
    eqF_step (d := 9999) a2 (by rw [b2, c2]; exact p2 G) (by rw [b2, c2]; exact p2 H) (by rw [b2]; exact q2),
    eqF_step (d := 9999) a3 (by rw [b3, c3]; exact p3 G) (by rw [b3, c3]; exact p3 H) (by rw [b3]; exact q3), eqF_nil]
  generalize decide (G.n = H.n) = B0
  generalize sameA G.b H.b = B1
  generalize sameA G.c H.c = B2
  generalize sameA G.w H.w = B3
  cases B0 <;> cases B1 <;> cases B2 <;> cases B3 <;> simp
end Go.Proofs.Ytomdnppnabncaaa
