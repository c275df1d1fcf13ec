/- A script of steps in memory; much. -/
import Derived.Test.YtihlejphjdelfaaDo
namespace Go.Proofs.Ytihlejphjdelfaa
open Go.RowKit
set_option linter.unusedVariables false

/-- A step: kind, offset, number, word, the slice and its bytes. -/
structure St where
  k : Int
  a : Int
  m : Int
  x : Int
  ao : Option Addr
  cp : Nat
  l : List Int

def St.v (s : St) : Value := .slice s.ao s.l.length s.cp
/-- What a step may be. -/
def St.fit (w : World) (s : St) : Prop := Bs w s.v s.l ∧ Byt s.l ∧ s.l.length ≤ 140737488351232 ∧ (-9223372036854775808 ≤ s.k ∧ s.k ≤ 9223372036854775807) ∧ (-9223372036854775808 ≤ s.a ∧ s.a ≤ 9223372036854775807) ∧ (-9223372036854775808 ≤ s.m ∧ s.m ≤ 9223372036854775807) ∧ 0 ≤ s.x ∧ s.x < 4294967296

/-- A slice of n steps at V. -/
def Sc (w : World) (V : Value) (n : Nat) (S : Nat → St) : Prop :=
  ∃ ao cap, V = .slice ao n cap ∧ n ≤ cap ∧ (0 < n → ∃ b off, ao = some ⟨b, off, none⟩ ∧ ∀ i, i < n →
    w.cell? ⟨b, off + i * 5, none⟩ = some (.int .i64 (S i).k) ∧ w.cell? ⟨b, off + i * 5 + 1, none⟩ = some (.int .i64 (S i).a) ∧ w.cell? ⟨b, off + i * 5 + 2, none⟩ = some (.int .i64 (S i).m) ∧
    w.cell? ⟨b, off + i * 5 + 3, none⟩ = some (.int .u32 (S i).x) ∧ w.cell? ⟨b, off + i * 5 + 4, none⟩ = some (S i).v) ∧ ∀ i, i < n → (S i).fit w

theorem Sc.shape {w : World} {V : Value} {n : Nat} {S : Nat → St} (h : Sc w V n S) : ∃ ao cap, V = .slice ao n cap := by
  obtain ⟨ao, cap, rfl, -⟩ := h
  exact ⟨ao, cap, rfl⟩
theorem Sc.at {w : World} {ao : Option Addr} {cap : Nat} {n : Nat} {S : Nat → St} (h : Sc w (.slice ao n cap) n S) {i : Nat} (hi : i < n) : ∃ b off, ao = some ⟨b, off, none⟩ ∧ n ≤ cap ∧
    w.cell? ⟨b, off + i * 5, none⟩ = some (.int .i64 (S i).k) ∧ w.cell? ⟨b, off + i * 5 + 1, none⟩ = some (.int .i64 (S i).a) ∧ w.cell? ⟨b, off + i * 5 + 2, none⟩ = some (.int .i64 (S i).m) ∧
    w.cell? ⟨b, off + i * 5 + 3, none⟩ = some (.int .u32 (S i).x) ∧ w.cell? ⟨b, off + i * 5 + 4, none⟩ = some (.slice (S i).ao (S i).l.length (S i).cp) := by
  obtain ⟨ao', cap', hv, hn, hc, -⟩ := h
  simp only [Value.slice.injEq, true_and] at hv
  obtain ⟨rfl, rfl⟩ := hv
  obtain ⟨b, off, rfl, hcell⟩ := hc (by omega)
  exact ⟨b, off, rfl, hn, hcell i hi⟩
theorem St.fit.keep {w w' : World} {s : St} (h : s.fit w) {B : Nat} (hk : ∀ k, k < B → w'.heap[k]? = w.heap[k]?) (hlt : s.l ≠ [] → ∀ k, s.v.ownBlock = some k → k < B) : s.fit w' := by
  refine ⟨?_, h.2⟩
  by_cases hl : s.l = []
  · obtain ⟨ao, cap, hv, h1, h2, h3⟩ := h.1
    exact ⟨ao, cap, hv, h1, h2, fun e => absurd hl e⟩
  · exact h.1.keep fun k e => hk k (hlt hl k e)
/-- The script stays where nothing old is written. -/
theorem Sc.keep {w w' : World} {V : Value} {n : Nat} {S : Nat → St} (h : Sc w V n S) (hk : Kp w w' []) : Sc w' V n S := by
  obtain ⟨ao, cap, rfl, hn, hc, hf⟩ := h
  refine ⟨ao, cap, rfl, hn, fun h0 => ?_, fun i hi => (hf i hi).keep (B := w.heap.size) (fun k hk' => hk.block k hk' (by simp)) (fun hl k e => (hf i hi).1.lt hl k e)⟩
  obtain ⟨b, off, rfl, hcell⟩ := hc h0
  refine ⟨b, off, rfl, fun i hi => ?_⟩
  obtain ⟨c0, c1, c2, c3, c4⟩ := hcell i hi
  exact ⟨hk.cell c0 (by simp), hk.cell c1 (by simp), hk.cell c2 (by simp), hk.cell c3 (by simp), hk.cell c4 (by simp)⟩

set_option maxRecDepth 100000 in
set_option maxHeartbeats 1000000 in
theorem much_any (w : World) (V : Value) (n : Nat) (S : Nat → St) (h : Sc w V n S) (hn : n ≤ 9223372036854775807) :
    Calls Try.prog 11 #[V] w fun e w' => ∃ B, e = .returned (.bool B) ∧ Kp w w' [] := by
  obtain ⟨ao, cap, rfl⟩ := h.shape
  have H := hid h
  clear h
  go_enter Try.func11, Try.ntmps11
  go_wp2
  go_loopw [3, 4] (fun s i wr => ∃ (t : Int) (k : Nat), k ≤ 200 ∧ k ≤ n ∧ 0 ≤ t ∧ t ≤ 99999 * (k : Int) ∧ s = .int .i64 t ∧ i = .int .i64 k ∧ wr = w)
    (fun _ i _ => 200 - (intOf i).toNat)
  case atStart => exact ⟨0, 0, by omega, by omega, by omega, by omega, rfl, rfl, rfl⟩
  case round =>
    obtain ⟨t, k, hk2, hkn, ht0, ht1, rfl, rfl, rfl⟩ := hrel
    by_cases hlt : k < n ∧ k < 200
    · have h1 : (k : Int) < (n : Int) := by omega
      have h2 : (k : Int) < 200 := by omega
      obtain ⟨b, off, rfl, hcp, -, -, -, -, c4⟩ := H.out.at hlt.1
      have hl4 : ((S k).l.length : Int) ≤ 140737488351232 := by
        obtain ⟨_, _, _, _, _, hf⟩ := H.out
        have := (hf k hlt.1).2.2.1
        omega
      obtain ⟨L, hL⟩ : ∃ L, L = (S k).l.length := ⟨_, rfl⟩
      rw [← hL] at c4 hl4
      clear hL
      go_wp2
      refine ⟨⟨t + (if 99999 < (L : Int) then 99999 else (L : Int)), k + 1, by omega, by omega, ?_, ?_, rfl, by go_num, trivial⟩, by simp [intOf]; omega⟩
      · split <;> omega
      · split <;> omega
    · by_cases hkn' : k < n
      · have h1 : (k : Int) < (n : Int) := by omega
        have h2 : (200 : Int) ≤ (k : Int) := by omega
        clear hlt
        go_wp2
        go_ret
        exact ⟨_, rfl, Kp.refl _ _⟩
      · have h1 : (n : Int) ≤ (k : Int) := by omega
        clear hlt
        go_wp2
        go_ret
        exact ⟨_, rfl, Kp.refl _ _⟩

/-- One step of the script, whatever it is. -/
theorem int_cases (k : Int) : k = 1 ∨ k = 2 ∨ k = 3 ∨ k = 4 ∨ k = 5 ∨ k = 6 ∨ ((k == 1) = false ∧ (k == 2) = false ∧ (k == 3) = false ∧ (k == 4) = false ∧ (k == 5) = false ∧ (k == 6) = false) := by
  simp only [beq_eq_false_iff_ne, ne_eq]
  omega
end Go.Proofs.Ytihlejphjdelfaa
