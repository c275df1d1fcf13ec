/- Servers in memory: the program's, the reference's, none. No Go is walked here. -/
import Derived.Test.YtojcmnanapeooaaDel
import Derived.Test.YtojcmnanapeooaaPlain
import Derived.Laws.Rows
import Derived.Laws.Cells
namespace Go.Proofs.Ytojcmnanapeooaa
open Go.RowKit Go.Shelf

/-- A server's cells at block sb: period, most, left, active, since, used, pieces. -/
def Sc (w : World) (sb : Nat) (p m l : Int) (a : Bool) (si u : Int) (v : Value) : Prop := w.heap[sb]? = some (.cells #[.int .i64 p, .int .i64 m, .int .i64 l, .bool a, .int .i64 si, .int .i64 u, v] 58 (0, 0))
/-- The reference's: the budget ahead. -/
def Rc (w : World) (rb : Nat) (b p m l : Int) (a : Bool) (si u : Int) (v : Value) : Prop := w.heap[rb]? = some (.cells #[.int .i64 b, .int .i64 p, .int .i64 m, .int .i64 l, .bool a, .int .i64 si, .int .i64 u, v] 52 (0, 0))
section
variable {w w' : World} {sb : Nat} {b p m l : Int} {a : Bool} {si u : Int} {v : Value}
theorem Sc.lt (h : Sc w sb p m l a si u v) : sb < w.heap.size := lt_of_block h
theorem Sc.keep (h : Sc w sb p m l a si u v) {rows : List Nat} (hk : Kp w w' rows) (hr : sb ∉ rows) : Sc w' sb p m l a si u v := (hk.block sb h.lt hr).trans h
theorem Sc.c (h : Sc w sb p m l a si u v) : w.cell? ⟨sb, 0, none⟩ = some (.int .i64 p) ∧ w.cell? ⟨sb, 1, none⟩ = some (.int .i64 m) ∧ w.cell? ⟨sb, 2, none⟩ = some (.int .i64 l) ∧ w.cell? ⟨sb, 3, none⟩ = some (.bool a) ∧ w.cell? ⟨sb, 4, none⟩ = some (.int .i64 si) ∧ w.cell? ⟨sb, 5, none⟩ = some (.int .i64 u) ∧ w.cell? ⟨sb, 6, none⟩ = some v := by
  refine ⟨?_, ?_, ?_, ?_, ?_, ?_, ?_⟩ <;> (rw [cell_of_row w sb _ _ _ _ h]; rfl)
theorem Sc.free (h : Sc w sb p m l a si u v) (i : Nat) : w.frozen? ⟨sb, i, none⟩ = false := by simp [World.frozen?, show w.heap[sb]? = _ from h]
theorem Sc.set2 (h : Sc w sb p m l a si u v) (z : Int) : Sc (w.setCell ⟨sb, 2, none⟩ (.int .i64 z)) sb p m z a si u v := by
  unfold Sc; rw [heap_setCell_same w sb 2 _ 58 _ h]; rfl
theorem Sc.set3 (h : Sc w sb p m l a si u v) (z : Bool) : Sc (w.setCell ⟨sb, 3, none⟩ (.bool z)) sb p m l z si u v := by
  unfold Sc; rw [heap_setCell_same w sb 3 _ 58 _ h]; rfl
theorem Sc.set4 (h : Sc w sb p m l a si u v) (z : Int) : Sc (w.setCell ⟨sb, 4, none⟩ (.int .i64 z)) sb p m l a z u v := by
  unfold Sc; rw [heap_setCell_same w sb 4 _ 58 _ h]; rfl
theorem Sc.set5 (h : Sc w sb p m l a si u v) (z : Int) : Sc (w.setCell ⟨sb, 5, none⟩ (.int .i64 z)) sb p m l a si z v := by
  unfold Sc; rw [heap_setCell_same w sb 5 _ 58 _ h]; rfl
theorem Sc.set6 (h : Sc w sb p m l a si u v) (z : Value) : Sc (w.setCell ⟨sb, 6, none⟩ z) sb p m l a si u z := by
  unfold Sc; rw [heap_setCell_same w sb 6 _ 58 _ h]; rfl
theorem Rc.lt (h : Rc w sb b p m l a si u v) : sb < w.heap.size := lt_of_block h
theorem Rc.keep (h : Rc w sb b p m l a si u v) {rows : List Nat} (hk : Kp w w' rows) (hr : sb ∉ rows) : Rc w' sb b p m l a si u v := (hk.block sb h.lt hr).trans h
theorem Rc.c (h : Rc w sb b p m l a si u v) : w.cell? ⟨sb, 1, none⟩ = some (.int .i64 p) ∧ w.cell? ⟨sb, 2, none⟩ = some (.int .i64 m) ∧ w.cell? ⟨sb, 3, none⟩ = some (.int .i64 l) ∧ w.cell? ⟨sb, 4, none⟩ = some (.bool a) ∧ w.cell? ⟨sb, 5, none⟩ = some (.int .i64 si) ∧ w.cell? ⟨sb, 6, none⟩ = some (.int .i64 u) ∧ w.cell? ⟨sb, 7, none⟩ = some v := by
  refine ⟨?_, ?_, ?_, ?_, ?_, ?_, ?_⟩ <;> (rw [cell_of_row w sb _ _ _ _ h]; rfl)
theorem Rc.free (h : Rc w sb b p m l a si u v) (i : Nat) : w.frozen? ⟨sb, i, none⟩ = false := by simp [World.frozen?, show w.heap[sb]? = _ from h]
theorem Rc.set3 (h : Rc w sb b p m l a si u v) (z : Int) : Rc (w.setCell ⟨sb, 3, none⟩ (.int .i64 z)) sb b p m z a si u v := by
  unfold Rc; rw [heap_setCell_same w sb 3 _ 52 _ h]; rfl
theorem Rc.set4 (h : Rc w sb b p m l a si u v) (z : Bool) : Rc (w.setCell ⟨sb, 4, none⟩ (.bool z)) sb b p m l z si u v := by
  unfold Rc; rw [heap_setCell_same w sb 4 _ 52 _ h]; rfl
theorem Rc.set5 (h : Rc w sb b p m l a si u v) (z : Int) : Rc (w.setCell ⟨sb, 5, none⟩ (.int .i64 z)) sb b p m l a z u v := by
  unfold Rc; rw [heap_setCell_same w sb 5 _ 52 _ h]; rfl
theorem Rc.set6 (h : Rc w sb b p m l a si u v) (z : Int) : Rc (w.setCell ⟨sb, 6, none⟩ (.int .i64 z)) sb b p m l a si z v := by
  unfold Rc; rw [heap_setCell_same w sb 6 _ 52 _ h]; rfl
theorem Rc.set7 (h : Rc w sb b p m l a si u v) (z : Value) : Rc (w.setCell ⟨sb, 7, none⟩ z) sb b p m l a si u z := by
  unfold Rc; rw [heap_setCell_same w sb 7 _ 52 _ h]; rfl
end
/-- A row of pieces lies in no block of another kind. -/
theorem Dr.apart {w : World} {base : Nat} {v : Value} {l : List Dl} (h : Dr w base v l) {b t : Nat} {c : Array Value} (hb : w.heap[b]? = some (.cells c t (0, 0))) (ht : t ≠ 45) : v.ownBlock ≠ some b := fun e => by
  obtain ⟨-, cur, hc⟩ := owns_block h e
  exact block_ne hb hc ht rfl
theorem Dr.lt {w : World} {base : Nat} {v : Value} {l : List Dl} (h : Dr w base v l) {g : Nat} (hg : v.ownBlock = some g) : g < w.heap.size := by
  obtain ⟨-, cur, hc⟩ := owns_block h hg
  exact lt_of_block hc

/-- The program's server at block sb, its pieces in v. -/
structure Sr (w : World) (sb : Nat) (v : Value) (s : Sv) : Prop where
  c : Sc w sb s.per s.most s.left s.act s.since s.used v
  row : Dr w 0 v s.pcs
  ok : Ok s
/-- The reference's. -/
structure Rr (w : World) (rb : Nat) (v : Value) (s : Sv) : Prop where
  c : Rc w rb s.bud s.per s.most s.left s.act s.since s.used v
  row : Dr w 0 v s.pcs
  ok : Ok s
abbrev rws (b : Nat) (v : Value) : List Nat := b :: v.ownBlock.toList
/-- What a call that changes a server leaves. -/
structure Wt (w w' : World) (sb : Nat) (v : Value) (s' : Sv) : Prop where
  ex : ∃ v', Sr w' sb v' s' ∧ ∀ g, v'.ownBlock = some g → v.ownBlock = some g ∨ w.heap.size ≤ g
  kp : Kp w w' (rws sb v)
structure Rt (w w' : World) (sb : Nat) (v : Value) (s' : Sv) : Prop where
  ex : ∃ v', Rr w' sb v' s' ∧ ∀ g, v'.ownBlock = some g → v.ownBlock = some g ∨ w.heap.size ≤ g
  kp : Kp w w' (rws sb v)
section
variable {w w' : World} {sb : Nat} {v : Value} {s : Sv}
theorem Sr.keep (h : Sr w sb v s) {rows : List Nat} (hk : Kp w w' rows) (hr : ∀ k ∈ rws sb v, k ∉ rows) : Sr w' sb v s :=
  ⟨h.c.keep hk (hr sb (by simp)), h.row.kp hk fun g hg => hr g (by simp [hg]), h.ok⟩
theorem Sr.same (h : Sr w sb v s) (hk : Kp w w' []) : Sr w' sb v s := h.keep hk (by simp)
theorem Rr.keep (h : Rr w sb v s) {rows : List Nat} (hk : Kp w w' rows) (hr : ∀ k ∈ rws sb v, k ∉ rows) : Rr w' sb v s :=
  ⟨h.c.keep hk (hr sb (by simp)), h.row.kp hk fun g hg => hr g (by simp [hg]), h.ok⟩
theorem Rr.same (h : Rr w sb v s) (hk : Kp w w' []) : Rr w' sb v s := h.keep hk (by simp)
theorem Sr.rlt (h : Sr w sb v s) : ∀ k ∈ rws sb v, k < w.heap.size := by
  intro k hk
  simp only [List.mem_cons, Option.mem_toList] at hk
  rcases hk with rfl | hk
  · exact h.c.lt
  · exact h.row.lt hk
theorem Rr.rlt (h : Rr w sb v s) : ∀ k ∈ rws sb v, k < w.heap.size := by
  intro k hk
  simp only [List.mem_cons, Option.mem_toList] at hk
  rcases hk with rfl | hk
  · exact h.c.lt
  · exact h.row.lt hk
/-- Nothing changed but cells of the server itself. -/
theorem Wt.own {s' : Sv} (hc : Sc w' sb s'.per s'.most s'.left s'.act s'.since s'.used v) (hk : Kp w w' [sb]) (h : Sr w sb v s) (hp : s'.pcs = s.pcs) (ho : Ok s') : Wt w w' sb v s' :=
  ⟨⟨v, ⟨hc, by rw [hp]; exact h.row.kp hk fun g hg e => h.row.apart h.c (by decide) (by simp only [List.mem_singleton] at e; rw [← e]; exact hg), ho⟩, fun g hg => .inl hg⟩, hk.mono (by intro k hk _; simp at hk; simp [hk])⟩
theorem Rt.own {s' : Sv} (hc : Rc w' sb s'.bud s'.per s'.most s'.left s'.act s'.since s'.used v) (hk : Kp w w' [sb]) (h : Rr w sb v s) (hp : s'.pcs = s.pcs) (ho : Ok s') : Rt w w' sb v s' :=
  ⟨⟨v, ⟨hc, by rw [hp]; exact h.row.kp hk fun g hg e => h.row.apart h.c (by decide) (by simp only [List.mem_singleton] at e; rw [← e]; exact hg), ho⟩, fun g hg => .inl hg⟩, hk.mono (by intro k hk _; simp at hk; simp [hk])⟩
theorem Wt.refl (h : Sr w sb v s) : Wt w w sb v s := ⟨⟨v, h, fun _ hg => .inl hg⟩, Kp.refl _ _⟩
theorem Rt.refl (h : Rr w sb v s) : Rt w w sb v s := ⟨⟨v, h, fun _ hg => .inl hg⟩, Kp.refl _ _⟩
theorem Wt.same (h : Sr w sb v s) (hk : Kp w w' []) : Wt w w' sb v s := ⟨⟨v, h.same hk, fun _ hg => .inl hg⟩, hk.nil⟩
end
/-- One call behind the other. -/
theorem Wt.then {w w1 w2 : World} {sb : Nat} {v : Value} {s s' : Sv} (h : Wt w w1 sb v s) (h' : ∀ v', Sr w1 sb v' s → Wt w1 w2 sb v' s') : Wt w w2 sb v s' := by
  obtain ⟨v1, a, b⟩ := h.ex
  obtain ⟨⟨v2, c, d⟩, k⟩ := h' v1 a
  refine ⟨⟨v2, c, fun g hg => ?_⟩, h.kp.past k ?_⟩
  · rcases d g hg with q | q
    · exact b g q
    · exact .inr (Nat.le_trans h.kp.size q)
  · intro g hg hl
    simp only [List.mem_cons, Option.mem_toList] at hg ⊢
    rcases hg with q | q
    · exact .inl q
    · rcases b g q with r | r
      · exact .inr r
      · omega
/-- No server: nil, or zero. -/
def Zs (w : World) (p : Option Addr) : Prop := p = none ∨ ∃ b, p = some ⟨b, 0, none⟩ ∧ Sc w b 0 0 0 false 0 0 (.slice none 0 0)
theorem Zs.keep {w w' : World} {p : Option Addr} (h : Zs w p) (hk : Kp w w' []) : Zs w' p := by
  rcases h with rfl | ⟨b, rfl, h⟩
  · exact .inl rfl
  · exact .inr ⟨b, rfl, h.keep hk (by simp)⟩
end Go.Proofs.Ytojcmnanapeooaa
