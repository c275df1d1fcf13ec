/- The reference: Same. -/
import Derived.Test.YtfhbcigeoagedaaRefAll
namespace Go.Proofs.Ytfhbcigeoagedaa
open Go.RowKit Go.Shelf

theorem two_items (a b c d : Int) (w : World) : (Op.eqItems 9999 3 1 #[.int .i64 a, .int .i64 b] #[.int .i64 c, .int .i64 d] (List.range 2)).run Try.prog w = .ok (decide (a = c) && decide (b = d)) w := by
  have h3 : (isAgg 3).run Try.prog w = .ok false w := Try.isAgg3 w
  rw [show List.range 2 = [0, 1] from rfl]
  by_cases e1 : a = c <;> by_cases e2 : b = d <;> simp [Op.eqItems, part, Sem.run_bind, h3, go_sem, e1, e2]
theorem two_neq (a b c d : Int) (w : World) : (binOp .neq 63 (.agg #[.int .i64 a, .int .i64 b]) (.agg #[.int .i64 c, .int .i64 d])).run Try.prog w = .ok (.bool (!(decide (a = c) && decide (b = d)))) w := by
  rw [run_neq_struct]
  obtain ⟨i0, hi⟩ : ∃ i0, Try.prog.info? 3 = some i0 := ⟨_, rfl⟩
  have hc : Try.prog.cellsOf 3 = 1 := by kernel_rfl
  have h := run_equalIn_array (P := Try.prog) w 9999 #[.int .i64 a, .int .i64 b] #[.int .i64 c, .int .i64 d] Try.underlying63 hi
  rw [hc, two_items] at h
  rw [h]
  rfl
theorem pre_step {l m : List (Nat × Nat)} {k : Nat} {x y : Nat × Nat} (hl : l[k]? = some x) (hm : m[k]? = some y) (h : l.take k = m.take k) : (l.take (k + 1) = m.take (k + 1)) ↔ x = y := by
  rw [List.take_add_one, List.take_add_one, hl, hm, h]
  constructor
  · intro e
    have := List.append_cancel_left e
    simpa using this
  · intro e; rw [e]

set_option maxRecDepth 100000 in
set_option maxHeartbeats 4000000 in
theorem rsame_any (w : World) (qb qb' : Nat) (L M : Ls) (h : Rq w qb L) (h' : Rq w qb' M) (hl : ∀ p, (L p).length ≤ 1000) (hm : ∀ p, (M p).length ≤ 1000) (hl2 : (seqs L 31).length ≤ 1000) (hm2 : (seqs M 31).length ≤ 1000) :
    Calls Try.prog 12 #[.pointer (some ⟨qb, 0, none⟩), .pointer (some ⟨qb', 0, none⟩)] w fun e w' => e = .returned (.bool (decide (seqs L 31 = seqs M 31))) ∧ Kp w w' [] := by
  have c1 := rall_any w qb L h hl hl2
  have H' := hid h'
  have hgd := fun (w : World) (x y : Operand) (xs ys : Array Value) => run_eqGuard_agg (P := Try.prog) w .neq 63 x y xs ys (by kernel_rfl)
  clear h h' hl
  go_enter Try.func12, Try.ntmps12
  go_wp2_with fail
  refine c1.mono ?_
  rintro e w1 ⟨⟨V1, rfl, hP1⟩, k1⟩
  obtain ⟨a1, cp1, rfl⟩ := hP1.slice
  have c2 := rall_any w1 qb' M (H'.out.keep k1) hm hm2
  have P1 := hid hP1
  have K1 := hid k1
  clear hP1 k1 c1
  go_wp2_with fail
  refine c2.mono ?_
  rintro e w2 ⟨⟨V2, rfl, hP2⟩, k2⟩
  obtain ⟨a2, cp2, rfl⟩ := hP2.slice
  have P1' := hid (P1.out.keep k2)
  have P2 := hid hP2
  have K2 := hid (K1.out.trans k2)
  clear hP2 k2 c2 P1 K1 hm
  obtain ⟨X, hX⟩ : ∃ X, seqs L 31 = X := ⟨_, rfl⟩
  obtain ⟨Y, hY⟩ : ∃ Y, seqs M 31 = Y := ⟨_, rfl⟩
  have HXY := hid (And.intro hX hY)
  rw [hX] at P1' hl2 ⊢
  rw [hY] at P2 hm2 ⊢
  clear hX hY
  by_cases hlen : X.length = Y.length
  · have HL := hid hlen
    rw [← hlen]
    clear hlen
    go_wp2
    go_loopw [7] (fun v wr => ∃ k : Nat, k ≤ X.length ∧ v = .int .i64 k ∧ Hid (X.take k = Y.take k) ∧ Hid (Kp w wr []) ∧ Hid (Kp w2 wr [])) (fun v _ => X.length - (intOf v).toNat)
    case atStart => exact ⟨0, Nat.zero_le _, rfl, rfl, K2, Kp.refl _ _⟩
    case round =>
      obtain ⟨k, hk, rfl, hT, hK, hKb⟩ := hrel
      by_cases hlt : k < X.length
      · have hltI : (k : Int) < (X.length : Int) := by omega
        have hx : X[k]? = some X[k] := List.getElem?_eq_getElem hlt
        have hkm : k < Y.length := by have := HL.out; omega
        have hy : Y[k]? = some Y[k] := List.getElem?_eq_getElem hkm
        obtain ⟨x, hxe⟩ : ∃ x, X[k] = x := ⟨_, rfl⟩
        obtain ⟨y, hye⟩ : ∃ y, Y[k] = y := ⟨_, rfl⟩
        rw [hxe] at hx
        rw [hye] at hy
        obtain ⟨g1, rfl, x1, x2⟩ := (P1'.out.keep hKb.out).at hx
        have z2 := P2.out.keep hKb.out
        have HS := hid (pre_step hx hy hT.out)
        obtain ⟨g2, rfl, y1, y2⟩ := z2.at hy
        clear z2 hx hy hxe hye
        have hnq := two_neq (x.1 : Nat) (x.2 : Nat) (y.1 : Nat) (y.2 : Nat)
        by_cases hxy : x = y
        · rw [show (!(decide (((x.1 : Nat) : Int) = ((y.1 : Nat) : Int)) && decide (((x.2 : Nat) : Int) = ((y.2 : Nat) : Int)))) = false by simp [hxy]] at hnq
          have HX := hid hxy
          clear hxy
          go_wp2
          go_quiet (fail)
          go_wp2
          go_roundw
          case rel => exact ⟨k + 1, by omega, by simp, HS.out.2 HX.out, hK.out.trans (Kp.drewN _ _ _), hKb.out.trans (Kp.drewN _ _ _)⟩
          case measure => simp [intOf]; omega
        · rw [show (!(decide (((x.1 : Nat) : Int) = ((y.1 : Nat) : Int)) && decide (((x.2 : Nat) : Int) = ((y.2 : Nat) : Int)))) = true by
            simp only [Bool.not_eq_true', Bool.and_eq_false_iff, decide_eq_false_iff_not]
            by_cases e1 : x.1 = y.1
            · right; intro e2; exact hxy (Prod.ext e1 (by omega))
            · left; omega] at hnq
          have HX := hid (show decide (X = Y) = false by
            simp only [decide_eq_false_iff_not]
            intro e
            exact hxy (HS.out.1 (by rw [e])))
          clear hxy
          go_wp2
          go_quiet (fail)
          go_wp2
          go_ret
          exact ⟨by rw [HXY.out.1, HXY.out.2, HX.out]; rfl, hK.out.trans (Kp.drewN _ _ _)⟩
      · have hltI : ¬ (k : Int) < (X.length : Int) := by omega
        have HX := hid (show decide (X = Y) = true by
          have := hT.out
          rw [List.take_of_length_le (by omega), List.take_of_length_le (by have := HL.out; omega)] at this
          simp [this])
        go_wp2
        go_ret
        exact ⟨by rw [HXY.out.1, HXY.out.2, HX.out]; rfl, hK.out⟩
  · have hn : ((X.length : Int) != (Y.length : Int)) = true := by simp; omega
    have HX := hid (show decide (X = Y) = false by simp only [decide_eq_false_iff_not]; rintro rfl; exact hlen rfl)
    clear hlen
    go_wp2
    go_ret
    exact ⟨by rw [HXY.out.1, HXY.out.2, HX.out]; rfl, K2.out⟩
end Go.Proofs.Ytfhbcigeoagedaa
