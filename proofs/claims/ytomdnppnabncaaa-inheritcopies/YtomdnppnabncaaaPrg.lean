/- What the program's graph must give: the contracts of its functions, whatever it is in memory. -/
import Derived.Test.YtomdnppnabncaaaMarks
namespace Go.Proofs.Ytomdnppnabncaaa
open Go.RowKit Go.Shelf
open Go.Lib hiding intOf

abbrev encI (x : Int) : Array Value := #[.int .i64 x]
/-- An iterator over Z, made in W behind block lo. -/
def Itr (lo : Nat) (W : World) (f : Nat) (lb : Array Value) (Z : List Int) : Prop :=
  Enters Try.prog f ∧ ∃ hi, hi ≤ W.heap.size ∧ ∀ W', Kp W W' [] → ∀ n, 3 ≤ n → Seqs n Try.prog f lb encI (Kc lo hi W'.heap.size) Z W'
theorem Itr.keep {lo : Nat} {W W' : World} {f : Nat} {lb : Array Value} {Z : List Int} (h : Itr lo W f lb Z) (hk : Kp W W' []) : Itr lo W' f lb Z := by
  obtain ⟨h1, hi, h2, h3⟩ := h
  exact ⟨h1, hi, Nat.le_trans h2 hk.size, fun W2 hk2 => h3 W2 (hk.trans hk2)⟩
/-- What Of tells. -/
def OfV (G : Gs) (t x : Int) : Prop := (mayT G t → ∀ L, Eff G L → x = L[t.toNat]!) ∧ (¬ mayT G t → x = 0)
/-- What Ring tells, of any number. -/
def RgI (G : Gs) (t : Int) (L : List Int) (b : Bool) : Prop := (mayT G t → Rg G t.toNat L b) ∧ (¬ mayT G t → L = [] ∧ b = false)
def RgV (G : Gs) (t : Int) (w : World) (base : Nat) (v : Value) (b : Bool) : Prop := ∃ L, RgI G t L b ∧ Ns w base v L
def EfV (G : Gs) (w : World) (base : Nat) (v : Value) : Prop := ∃ L, Eff G L ∧ Ns w base v L
structure Prg (Gr : World → Nat → Gs → Prop) : Prop where
  keep : ∀ {w w' : World} {gb : Nat} {G : Gs} {rows : List Nat}, Gr w gb G → Kp w w' rows → gb ∉ rows → Gr w' gb G
  cells : ∀ {w : World} {gb : Nat} {G : Gs}, Gr w gb G → ∃ c, w.heap[gb]? = some (.cells c 54 (0, 0))
  ok : ∀ {w : World} {gb : Nat} {G : Gs}, Gr w gb G → Gok G
  new_no : ∀ (w : World) (k : Int), ¬ (1 ≤ k ∧ k ≤ 16) → Calls Try.prog 8 #[.int .i64 k] w fun e w' => e = .returned (.tuple #[.pointer none, .int .i64 2]) ∧ Kp w w' []
  new_ok : ∀ (w : World) (n : Nat), 1 ≤ n → n ≤ 16 → Calls Try.prog 8 #[.int .i64 n] w fun e w' => (∃ gb, e = .returned (.tuple #[.pointer (some ⟨gb, 0, none⟩), .int .i64 0]) ∧ w.heap.size ≤ gb ∧ Gr w' gb (newG n)) ∧ Kp w w' []
  base : ∀ (w : World) (gb : Nat) (G : Gs) (t p : Int), Gr w gb G → Calls Try.prog 15 #[.pointer (some ⟨gb, 0, none⟩), .int .i64 t, .int .i64 p] w fun e w' => e = .returned (.int .i64 (baE G t p)) ∧ Gr w' gb (baG G t p) ∧ Kp w w' [gb]
  ceil : ∀ (w : World) (gb : Nat) (G : Gs) (t p : Int), Gr w gb G → Calls Try.prog 16 #[.pointer (some ⟨gb, 0, none⟩), .int .i64 t, .int .i64 p] w fun e w' => e = .returned (.int .i64 (baE G t p)) ∧ Gr w' gb (ceG G t p) ∧ Kp w w' [gb]
  waits : ∀ (w : World) (gb : Nat) (G : Gs) (t p : Int), Gr w gb G → Calls Try.prog 17 #[.pointer (some ⟨gb, 0, none⟩), .int .i64 t, .int .i64 p] w fun e w' => e = .returned (.int .i64 (waE G t p)) ∧ Gr w' gb (waG G t p) ∧ Kp w w' [gb]
  of_ : ∀ (w : World) (gb : Nat) (G : Gs) (t : Int), Gr w gb G → Calls Try.prog 18 #[.pointer (some ⟨gb, 0, none⟩), .int .i64 t] w fun e w' => (∃ x, e = .returned (.tuple #[.int .i64 x, .bool (decide (mayT G t))]) ∧ OfV G t x) ∧ Kp w w' []
  all : ∀ (w : World) (gb : Nat) (G : Gs), Gr w gb G → Calls Try.prog 13 #[.pointer (some ⟨gb, 0, none⟩)] w fun e w' => (∃ v, e = .returned v ∧ EfV G w' w.heap.size v) ∧ Kp w w' []
  ring : ∀ (w : World) (gb : Nat) (G : Gs) (t : Int), Gr w gb G → Calls Try.prog 14 #[.pointer (some ⟨gb, 0, none⟩), .int .i64 t] w fun e w' => (∃ v b, e = .returned (.tuple #[v, .bool b]) ∧ RgV G t w' w.heap.size v b) ∧ Kp w w' []
  for_ : ∀ (w : World) (gb : Nat) (G : Gs) (t : Int), Gr w gb G → Calls Try.prog 21 #[.pointer (some ⟨gb, 0, none⟩), .int .i64 t] w fun e w' => (∃ f lb, e = .returned (.func (.func f) #[] lb) ∧ Itr w.heap.size w' f lb (forL G t)) ∧ Kp w w' []
  copy : ∀ (w : World) (gb : Nat) (G : Gs), Gr w gb G → Calls Try.prog 19 #[.pointer (some ⟨gb, 0, none⟩)] w fun e w' => (∃ cb, e = .returned (.pointer (some ⟨cb, 0, none⟩)) ∧ w.heap.size ≤ cb ∧ Gr w' cb G) ∧ Kp w w' []
  same : ∀ (w : World) (g1 g2 : Nat) (G H : Gs), Gr w g1 G → Gr w g2 H → Calls Try.prog 20 #[.pointer (some ⟨g1, 0, none⟩), .pointer (some ⟨g2, 0, none⟩)] w fun e w' => e = .returned (.bool (sameG G H)) ∧ ∃ k, w' = w.drewN k
section
variable {Gr : World → Nat → Gs → Prop} {w w' : World} {gb rb : Nat} {G H : Gs}
theorem Prg.lt (P : Prg Gr) (h : Gr w gb G) : gb < w.heap.size := by obtain ⟨c, hc⟩ := P.cells h; exact lt_of_block hc
theorem Prg.still (P : Prg Gr) (h : Gr w gb G) (hk : Kp w w' []) : Gr w' gb G := P.keep h hk (by simp)
theorem Prg.ne (P : Prg Gr) (h : Gr w gb G) (h' : Rr w rb H) : gb ≠ rb := by
  rintro rfl
  obtain ⟨c, hc⟩ := P.cells h
  unfold Rr at h'
  rw [h'] at hc
  simp at hc
end
/-- A step's graph. -/
def stepG (G : Gs) (k t x : Int) : Gs := if k = 1 then baG G t x else if k = 2 then ceG G t x else if k = 3 then waG G t x else G
theorem step_n (G : Gs) (k t x : Int) : (stepG G k t x).n = G.n := by
  unfold stepG
  split
  · exact ba_n G t x
  · split
    · exact ce_n G t x
    · split
      · exact wa_n G t x
      · rfl
end Go.Proofs.Ytomdnppnabncaaa
