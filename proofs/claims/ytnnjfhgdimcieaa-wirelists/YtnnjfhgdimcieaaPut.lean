/- form: two numbers; wire.Put at pairs: how many, then each. -/
import Derived.Test.YtnnjfhgdimcieaaPairs
import Derived.Test.YtnnjfhgdimcieaaBig
namespace Go.Proofs.Ytnnjfhgdimcieaa
open Go.RowKit
set_option linter.unusedVariables false
set_option linter.unusedSimpArgs false

theorem owns_grown {w w' : World} {base e s n : Nat} {v : Value} {xs : List Value} (h : w.ownsRow base e s v n xs) (hg : w.grownBy w' none) : w'.ownsRow base e s v n xs := by
  refine ⟨h.1, ?_⟩
  rcases h.2 with hh | ⟨g, cap, cur, hv, hb', hg', rest⟩
  · exact .inl hh
  · exact .inr ⟨g, cap, cur, hv, hb', (hg.block g (lt_of_block hg') (by simp)).trans hg', rest⟩
/-- An append onto what is new: nothing elder is written. -/
theorem grown_onto {w wr w1 : World} {v : Value} {e s n : Nat} {xs : List Value} (hg : w.grownBy wr none) (hown : wr.ownsRow w.heap.size e s v n xs) (hgrow : wr.grownBy w1 v.ownBlock) : w.grownBy w1 none :=
  ⟨hgrow.os.trans hg.os, hgrow.tape.trans hg.tape, hgrow.output.trans hg.output, Nat.le_trans hg.size hgrow.size, fun k hk hr => (hgrow.block k (Nat.lt_of_lt_of_le hk hg.size) (fun e => by have := (hown.lt k e.symm).1; omega)).trans (hg.block k hk hr)⟩

theorem pair_keep {w w' : World} {N : Nat} {x y : Value} (h : w.cell? ⟨N, 0, none⟩ = some x ∧ w.cell? ⟨N, 1, none⟩ = some y) (hg : w.grownBy w' none) : w'.cell? ⟨N, 0, none⟩ = some x ∧ w'.cell? ⟨N, 1, none⟩ = some y := two_keep h hg

set_option maxRecDepth 100000 in
set_option maxHeartbeats 1000000 in
theorem form_any (w : World) (p : Nat × Nat) (h : Pr p) : Calls Try.prog 30 #[.agg #[.int .u64 p.1, .int .u64 p.2]] w fun e w' => ∃ v, e = .returned v ∧ w'.ownsRow w.heap.size 5 1 v (formP p).length (ub (formP p)) ∧ w.grownBy w' none := by
  obtain ⟨a, b⟩ := p
  have HA := hid h.1
  have HB := hid h.2
  clear h
  dsimp only at HA HB ⊢
  have HF := hid (show formP (a, b) = num a ++ num b from rfl)
  obtain ⟨F, hF⟩ : ∃ F, F = formP (a, b) := ⟨_, rfl⟩
  rw [← hF] at HF ⊢
  clear hF
  go_enter Try.func30, Try.ntmps30
  go_wp2_with fail
  obtain ⟨W1, hW1⟩ : ∃ W1, W1 = w.alloc (.cells #[.int .u64 (a : Int), .int .u64 (b : Int)] 59) := ⟨_, rfl⟩
  rw [← hW1]
  have hst : W1.cell? ⟨w.heap.size, 0, none⟩ = some (.int .u64 (a : Int)) ∧ W1.cell? ⟨w.heap.size, 1, none⟩ = some (.int .u64 (b : Int)) := by
    rw [hW1]
    exact ⟨cell_two0 (heap_alloc_new w _), cell_two1 (heap_alloc_new w _)⟩
  have HG1 := hid (show w.grownBy W1 none by rw [hW1]; exact World.grownBy_alloc _ _ _)
  have HL := hid (And.intro (digs_le 9 a) (digs_le 9 b))
  clear hW1
  go_region_held_law (fun w' => w'.cell? ⟨w.heap.size, 0, none⟩ = some (.int .u64 (a : Int)) ∧ w'.cell? ⟨w.heap.size, 1, none⟩ = some (.int .u64 (b : Int)))
    (first
      | exact pair_keep hst (grownBy_drew _ _)
      | exact pair_keep hst (grownBy_trans (grownBy_drew _ none) (grown_onto (grownBy_trans hg3 hg4) (owns_grown hown3 hg4) hg5))
      | exact pair_keep hst (grownBy_trans (grownBy_trans (grownBy_drew _ none) hg3) hg4)
      | exact pair_keep hst (grownBy_trans (grownBy_drew _ none) hg3))
    (first
      | (go_at_call 9; have _hh := hg3; refine (number_any b _ HB.out).mono ?_; rintro e w4 ⟨v4, rfl, hown4, hg4⟩; obtain ⟨ao4, cp4, rfl⟩ := owns_shape hown4)
      | (go_at_call 9; refine (number_any a _ HA.out).mono ?_; rintro e w3 ⟨v3, rfl, hown3, hg3⟩; obtain ⟨ao3, cp3, rfl⟩ := owns_shape hown3)
      | (refine step_append_bs (by rfl) _ _ (by rfl) 9 (by rfl) W1.drew.heap.size _ (num a).length (ub (num a)) (by rfl) (owns_grown hown3 hg4) _ (num b) (by rfl) (Bs.of_owns hown4) (by have := HL.out; unfold num; omega) (Nat.le_trans hg3.size hg4.size) ?_; intro v5 w5 hown5 hg5))
  have HG5 := hid (grownBy_trans HG1.out (grownBy_trans (grownBy_drew _ none) (grown_onto (grownBy_trans hg3 hg4) (owns_grown hown3 hg4) hg5)))
  have HO5 := hid (show w5.ownsRow w.heap.size 5 1 v5 F.length (ub F) by
    rw [HF.out]
    have h := owns_base hown5 (base' := w.heap.size) HG1.out.size
    simpa [ub] using h)
  obtain ⟨ao5, cp5, rfl⟩ := owns_shape HO5.out
  clear hown3 hg3 hown4 hg4 hown5 hg5 hst
  go_wp2
  go_ret
  exact ⟨_, rfl, HO5.out, HG5.out⟩

/-- A list of pairs in memory. -/
def Ps (w : World) (V : Value) (ps : List (Nat × Nat)) : Prop :=
  ∃ ao cap, V = .slice ao ps.length cap ∧ ps.length ≤ cap ∧ (ao = none → cap = 0) ∧ (0 < ps.length → ∃ b off, ao = some ⟨b, off, none⟩ ∧ ∀ i, i < ps.length →
    w.cell? ⟨b, off + i * 2, none⟩ = some (.int .u64 ((ps.getD i (0, 0)).1 : Int)) ∧ w.cell? ⟨b, off + i * 2 + 1, none⟩ = some (.int .u64 ((ps.getD i (0, 0)).2 : Int)))
theorem Ps.shape {w : World} {V : Value} {ps : List (Nat × Nat)} (h : Ps w V ps) : ∃ ao cap, V = .slice ao ps.length cap := by
  obtain ⟨ao, cap, rfl, -⟩ := h
  exact ⟨ao, cap, rfl⟩
theorem Ps.at {w : World} {ao : Option Addr} {n cap : Nat} {ps : List (Nat × Nat)} (h : Ps w (.slice ao n cap) ps) {i : Nat} (hi : i < ps.length) : ∃ b off, ao = some ⟨b, off, none⟩ ∧ n = ps.length ∧ n ≤ cap ∧
    w.cell? ⟨b, off + i * 2, none⟩ = some (.int .u64 ((ps.getD i (0, 0)).1 : Int)) ∧ w.cell? ⟨b, off + i * 2 + 1, none⟩ = some (.int .u64 ((ps.getD i (0, 0)).2 : Int)) := by
  obtain ⟨ao', cap', hv, hn, hnil, hc⟩ := h
  simp only [Value.slice.injEq] at hv
  obtain ⟨rfl, rfl, rfl⟩ := hv
  obtain ⟨b, off, rfl, hcell⟩ := hc (by omega)
  exact ⟨b, off, rfl, rfl, hn, (hcell i hi).1, (hcell i hi).2⟩
theorem Ps.grown {w w' : World} {V : Value} {ps : List (Nat × Nat)} (h : Ps w V ps) {row : Option Nat} (hg : w.grownBy w' row) (hr : ∀ k, V.ownBlock = some k → row ≠ some k) : Ps w' V ps := by
  obtain ⟨ao, cap, rfl, hn, hnil, hc⟩ := h
  refine ⟨ao, cap, rfl, hn, hnil, fun h0 => ?_⟩
  obtain ⟨b, off, rfl, hcell⟩ := hc h0
  exact ⟨b, off, rfl, fun i hi => ⟨cell_grown hg (hcell i hi).1 (hr b rfl), cell_grown hg (hcell i hi).2 (hr b rfl)⟩⟩
theorem take_flat {ps : List (Nat × Nat)} {k : Nat} (hk : k < ps.length) : flat (ps.take (k + 1)) = flat (ps.take k) ++ formP (ps.getD k (0, 0)) := by
  have e : ps.take (k + 1) = ps.take k ++ [ps.getD k (0, 0)] := by
    rw [List.take_add_one, List.getElem?_eq_getElem hk, List.getD_eq_getElem?_getD, List.getElem?_eq_getElem hk]
    rfl
  rw [e]
  unfold flat
  rw [List.flatMap_append]
  simp

set_option maxRecDepth 100000 in
set_option maxHeartbeats 2000000 in
theorem put_any (w : World) (V : Value) (ps : List (Nat × Nat)) (h : Ps w V ps) (hp : ∀ p ∈ ps, Pr p) (hn : ps.length ≤ 8796093021952) :
    Calls Try.prog 29 #[V, .func (.func 30) #[] #[]] w fun e w' => ∃ v, e = .returned (.tuple #[v, .int .i64 0]) ∧ w'.ownsRow w.heap.size 5 1 v (formL ps).length (ub (formL ps)) ∧ w.grownBy w' none := by
  have hfn : ∀ w : World, (binOp .eql 61 (.func (.func 30) #[] #[]) .nilFunc).run Try.prog w = .ok (.bool false) w := fun _ => by kernel_rfl
  obtain ⟨ao, cap, rfl⟩ := h.shape
  have H := hid h
  have HP := hid hp
  obtain ⟨n, hN⟩ : ∃ n, n = ps.length := ⟨_, rfl⟩
  have HN := hid hN
  obtain ⟨F, hF⟩ : ∃ F, F = formL ps := ⟨_, rfl⟩
  have HF := hid hF
  rw [← hF]
  rw [← hN] at H ⊢
  have hnI : (n : Int) ≤ 8796093021952 := by omega
  have HPb := hid (show ∀ w' : World, w.grownBy w' none → Ps w' (.slice ao n cap) ps from fun w' hg => H.out.grown hg (by simp))
  clear h hp hN hF hn
  go_enter Try.func29, Try.ntmps29
  go_wp2_with fail
  refine (number_any n w (by omega)).mono ?_
  rintro e w1 ⟨v1, rfl, hown1, hg1⟩
  obtain ⟨ao1, cp1, rfl⟩ := owns_shape hown1
  have HO1 := hid hown1
  have HG1 := hid hg1
  clear hown1 hg1
  go_wp2
  go_loopw [6, 17] (fun lv i wr => ∃ (k m : Nat) (ao' : Option Addr) (cp : Nat), k ≤ n ∧ i = .int .i64 k ∧ lv = .slice ao' m cp ∧ Hid (wr.ownsRow w.heap.size 5 1 (.slice ao' m cp) m (ub (num n ++ flat (ps.take k)))) ∧ Hid (w.grownBy wr none))
    (fun _ i _ => n - (intOf i).toNat)
  case atStart => exact ⟨0, (num n).length, ao1, cp1, Nat.zero_le _, rfl, rfl, hid (by have := HO1.out; simpa [flat] using this), HG1.out⟩
  case round =>
    obtain ⟨k, m, ao', cp, hk, rfl, rfl, hO, hG⟩ := hrel
    by_cases hlt : k < n
    · have hlt' : (k : Int) < (n : Int) := by omega
      obtain ⟨b, off, rfl, -, hncap, u0, u1⟩ := (HPb.out wr hG.out).at (i := k) (by rw [← HN.out]; exact hlt)
      obtain ⟨p, hpd⟩ : ∃ p, p = ps.getD k (0, 0) := ⟨_, rfl⟩
      rw [← hpd] at u0 u1
      have HPD := hid hpd
      have HPR := hid (show Pr p by rw [hpd]; exact HP.out _ (by rw [List.getD_eq_getElem?_getD, List.getElem?_eq_getElem (by rw [← HN.out]; exact hlt)]; simp))
      clear hpd
      go_wp2_with fail
      refine (form_any _ p HPR.out).mono ?_
      rintro e w2 ⟨v2, rfl, hown2, hg2⟩
      obtain ⟨ao2, cp2, rfl⟩ := owns_shape hown2
      have hml : m ≤ 10 + 20 * k := by
        have h1 := hO.out.1
        have h2 := num_len n
        have h3 := flat_len (ps.take k)
        have h4 : (ps.take k).length ≤ k := by simp; omega
        simp at h1
        omega
      have hfl : (formP p).length ≤ 20 := by
        have h1 := num_len p.1
        have h2 := num_len p.2
        simp [formP]
        omega
      have HO2 := hid (owns_grown (hO.out.alloc (.cells #[.int .u64 (p.1 : Int), .int .u64 (p.2 : Int)] 59)) hg2)
      have HB2 := hid (Bs.of_owns (l := formP p) hown2)
      have HG2 := hid (grownBy_trans (grownBy_trans hG.out (World.grownBy_alloc wr (.cells #[.int .u64 (p.1 : Int), .int .u64 (p.2 : Int)] 59) none)) hg2)
      have hs2 := HG2.out.size
      clear hown2 hg2 u0 u1
      go_wp2_with (at_builtin; refine wpList_append_big rfl _ _ rfl w.heap.size _ m (ub (num n ++ flat (ps.take k))) rfl HO2.out _ (formP p) rfl HB2.out (by omega) hs2 ?_; intro v3 w3 hown3 hg3)
      have G3 := hid (grown_onto HG2.out HO2.out hg3)
      obtain ⟨ao3, cp3, rfl⟩ := owns_shape hown3
      have HO3 := hid hown3
      clear hown3 hg3
      go_wp2
      go_roundw
      case rel =>
        refine ⟨k + 1, m + (formP p).length, ao3, cp3, by omega, by go_num, rfl, hid ?_, G3.out⟩
        have h := HO3.out
        rw [take_flat (by rw [← HN.out]; exact hlt), ← HPD.out, ← List.append_assoc]
        have e : ub (num n ++ flat (ps.take k) ++ formP p) = ub (num n ++ flat (ps.take k)) ++ ub (formP p) := by simp [ub]
        rw [e]
        exact h
      case measure => simp [intOf]; omega
    · have hlt' : ¬ (k : Int) < (n : Int) := by omega
      have HE := hid (show k = n by omega)
      go_wp2
      go_ret2
      refine ⟨_, rfl, ?_, hG.out⟩
      have e : F = num n ++ flat (ps.take k) := by
        rw [HF.out, HE.out]
        have e2 := HN.out
        rw [e2, List.take_length]
        rfl
      have := hO.out
      have hl := this.1
      rw [e]
      have hm : m = (num n ++ flat (ps.take k)).length := by simpa using hl.symm
      rw [← hm]
      exact this
end Go.Proofs.Ytnnjfhgdimcieaa
