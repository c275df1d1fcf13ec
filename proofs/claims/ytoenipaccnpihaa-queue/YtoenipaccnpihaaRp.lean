/- The reference's place. -/
import Derived.Test.YtoenipaccnpihaaRk
namespace Go.Proofs.Ytoenipaccnpihaa
open Go.RowKit Go.Shelf Go.Sort Go.Maps
open Go.Lib hiding intOf
attribute [local go_sem] Oper.semAt_some

theorem plI_none {t W : Nat} {L : El} {i : Nat} (h : plc t W L i = none) : plI t W L i = -1 := by unfold plI; rw [h]
theorem plI_some {t W : Nat} {L : El} {i k : Nat} (h : plc t W L i = some k) : plI t W L i = k := by unfold plI; rw [h]
theorem plI_off {t W : Nat} {L : El} {i : Nat} {x : Nat × Nat × Int} (hx : L[i]? = some x) (hf : fits t W x = false) : plI t W L (i + 1) = plI t W L i := by
  unfold plI
  conv => lhs; unfold plc
  rw [hx]
  simp [hf]
theorem plI_first {t W : Nat} {L : El} {i : Nat} {x : Nat × Nat × Int} (hx : L[i]? = some x) (hf : fits t W x = true) (h : plc t W L i = none) : plI t W L (i + 1) = i := by
  unfold plI
  conv => lhs; unfold plc
  rw [hx]
  simp [hf, h]
theorem plI_less {t W : Nat} {L : El} {i k : Nat} {x y : Nat × Nat × Int} (hx : L[i]? = some x) (hf : fits t W x = true) (h : plc t W L i = some k) (hy : L[k]? = some y) (hl : x.2.1 < y.2.1) : plI t W L (i + 1) = i := by
  unfold plI
  conv => lhs; unfold plc
  rw [hx]
  simp [hf, h, hy, hl]
theorem plI_more {t W : Nat} {L : El} {i k : Nat} {x y : Nat × Nat × Int} (hx : L[i]? = some x) (hf : fits t W x = true) (h : plc t W L i = some k) (hy : L[k]? = some y) (hl : ¬ x.2.1 < y.2.1) : plI t W L (i + 1) = k := by
  unfold plI
  conv => lhs; unfold plc
  rw [hx]
  simp [hf, h, hy, hl]
set_option maxRecDepth 100000 in
theorem rplace_no (w : World) (rb : Nat) (Q : List Nat) (T S : Nat) (M : Nat → Nat) (L : El) (t : Int) (v : Value) (h : Rm w rb Q T S M L) (ht : inT T t = false) : Calls Try.prog 48 #[.pointer (some ⟨rb, 0, none⟩), .int .i64 t, v] w fun e w' => e = .returned (.int .i64 (-1)) ∧ w' = w := by
  obtain ⟨V, -, hc, he⟩ := h
  have HI := rin_any w rb T S M V t hc
  rw [ht] at HI
  have HI := hid HI
  clear hc he ht
  go_enter Try.func48, Try.ntmps48
  go_wp2
  go_loopw [7, 8] (fun vb vi wr => vi = .int .i64 0 ∧ vb = .int .i64 (-1) ∧ wr = w) (fun _ _ _ => 0)
  case atStart => exact ⟨rfl, rfl, rfl⟩
  case round =>
    obtain ⟨rfl, rfl, rfl⟩ := hrel
    go_wp2_with fail
    refine HI.out.mono ?_
    rintro e w1 ⟨rfl, hw⟩; obtain rfl := hw.symm
    go_wp2
    go_ret
    exact ⟨rfl, rfl⟩
set_option maxRecDepth 100000 in
set_option maxHeartbeats 2000000 in
theorem rplace_yes (w : World) (rb : Nat) (Q : List Nat) (T S : Nat) (M : Nat → Nat) (L : El) (t W : Nat) (h : Rm w rb Q T S M L) (ht : t < T) (hok : Ok T S L) (hl : L.length ≤ 600) (hW : W < 4294967296) : Calls Try.prog 48 #[.pointer (some ⟨rb, 0, none⟩), .int .i64 t, .int .u32 W] w fun e w' => e = .returned (.int .i64 (plI t W L L.length)) ∧ w' = w := by
  obtain ⟨V, -, hc, he⟩ := h
  have HI := rin_any w rb T S M V t hc
  rw [inT_nat, decide_eq_true ht] at HI
  have HI := hid HI
  obtain ⟨ao, cap, rfl⟩ := he.slice
  have c0 := hc.row
  have HE := hid he
  have HB := hid (fun (n : Nat) (hn : n < 32) => rbit_any w n hn)
  have HO := hid hok
  have HW := hid hW
  obtain ⟨N, hN⟩ : ∃ N, L.length = N := ⟨_, rfl⟩
  rw [hN] at c0 hl HE ⊢
  have HN := hid hN
  have HL := hid hl
  clear hc he hN hl ht hok hW
  go_enter Try.func48, Try.ntmps48
  go_wp2
  go_loopw [7, 8] (fun vb vi wr => ∃ i : Nat, vi = .int .i64 i ∧ vb = .int .i64 (plI t W L i) ∧ wr = w ∧ Hid (i ≤ N)) (fun _ vi _ => N - (intOf vi).toNat)
  case atStart => exact ⟨0, rfl, rfl, rfl, hid (Nat.zero_le _)⟩
  case round =>
    obtain ⟨i, rfl, rfl, rfl, hR⟩ := hrel
    by_cases hk : i < N
    · have hkI : (i : Int) < N := by omega
      have hwi : IntKind.i64.wrap ((i : Int) + 1) = (i : Int) + 1 := IntWalk.i64_in _ ⟨by omega, by have := HL.out; omega⟩
      have hiL : i < L.length := by have := HN.out; omega
      have hx : L[i]? = some L[i] := List.getElem?_eq_getElem hiL
      generalize L[i] = x at hx
      obtain ⟨g, rfl, c2, c1, -⟩ := HE.out.at hx
      have hin := HO.out.inn x (List.mem_of_getElem? hx)
      have HI2 := hid (show i + 1 ≤ N from hk)
      by_cases het : x.1 = t
      · have heI : ((x.1 : Int) == (t : Int)) = true := by simp [het]
        have hb : bits .and .u32 (W : Int) (2 ^ x.2.1) = ((W &&& 2 ^ x.2.1 : Nat) : Int) := by
          rw [pow_cast]
          exact and_bits HW.out (bit_lt (k := x.2.1) (by omega))
        have hb2 := and_two W x.2.1
        have HB2 := hid (HB.out x.2.1 (by omega))
        generalize W &&& 2 ^ x.2.1 = z at hb hb2
        cases hbt : W.testBit x.2.1 with
        | false =>
          rw [hbt] at hb2
          have HU := hid (plI_off hx (show fits t W x = false by unfold fits; rw [hbt]; simp))
          generalize plI t W L i = A at HU ⊢
          clear hx hR hin het hbt
          go_wp2_with fail
          refine HI.out.mono ?_
          rintro e w1 ⟨rfl, hw⟩; obtain rfl := hw.symm
          go_wp2_with fail
          refine HB2.out.mono ?_
          rintro e w1 ⟨rfl, hw⟩; obtain rfl := hw.symm
          go_wp2
          go_roundw
          case rel => exact ⟨i + 1, by simp, by rw [HU.out], trivial, HI2⟩
          case measure => simp [intOf]; omega
        | true =>
          rw [hbt] at hb2
          have hf : fits t W x = true := by unfold fits; rw [hbt]; simp [het]
          cases hp : plc t W L i with
          | none =>
            have HU := hid (plI_first hx hf hp)
            rw [plI_none hp]
            have hm1 : ((-1 : Int) < 0) := by omega
            clear hx hR hin het hbt hf hp
            go_wp2_with fail
            refine HI.out.mono ?_
            rintro e w1 ⟨rfl, hw⟩; obtain rfl := hw.symm
            go_wp2_with fail
            refine HB2.out.mono ?_
            rintro e w1 ⟨rfl, hw⟩; obtain rfl := hw.symm
            go_wp2
            go_roundw
            case rel => exact ⟨i + 1, by simp, by rw [HU.out], trivial, HI2⟩
            case measure => simp [intOf]; omega
          | some k =>
            obtain ⟨hki, y, hy, -⟩ := (plc_ok t W L i (by omega)).yes k hp
            obtain ⟨g', hg', -, d1, -⟩ := HE.out.at hy
            simp only [Option.some.injEq, Addr.mk.injEq, and_true] at hg'
            subst hg'
            rw [plI_some hp]
            have hk0 : ¬ ((k : Int) < 0) := by omega
            have hkN : (k : Int) < N := by omega
            by_cases hlt : x.2.1 < y.2.1
            · have HU := hid (plI_less hx hf hp hy hlt)
              have hltI : ((x.2.1 : Int) < (y.2.1 : Int)) := by omega
              clear hx hR hin het hbt hf hp hy
              go_wp2_with fail
              refine HI.out.mono ?_
              rintro e w1 ⟨rfl, hw⟩; obtain rfl := hw.symm
              go_wp2_with fail
              refine HB2.out.mono ?_
              rintro e w1 ⟨rfl, hw⟩; obtain rfl := hw.symm
              go_wp2
              go_roundw
              case rel => exact ⟨i + 1, by simp, by rw [HU.out], trivial, HI2⟩
              case measure => simp [intOf]; omega
            · have HU := hid (plI_more hx hf hp hy hlt)
              have hltI : ¬ ((x.2.1 : Int) < (y.2.1 : Int)) := by omega
              clear hx hR hin het hbt hf hp hy
              go_wp2_with fail
              refine HI.out.mono ?_
              rintro e w1 ⟨rfl, hw⟩; obtain rfl := hw.symm
              go_wp2_with fail
              refine HB2.out.mono ?_
              rintro e w1 ⟨rfl, hw⟩; obtain rfl := hw.symm
              go_wp2
              go_roundw
              case rel => exact ⟨i + 1, by simp, by rw [HU.out], trivial, HI2⟩
              case measure => simp [intOf]; omega
      · have heI : ((x.1 : Int) == (t : Int)) = false := by simp; omega
        have HU := hid (plI_off hx (show fits t W x = false by unfold fits; simp [het]))
        generalize plI t W L i = A at HU ⊢
        clear hx hR hin het
        go_wp2_with fail
        refine HI.out.mono ?_
        rintro e w1 ⟨rfl, hw⟩; obtain rfl := hw.symm
        go_wp2
        go_roundw
        case rel => exact ⟨i + 1, by simp, by rw [HU.out], trivial, HI2⟩
        case measure => simp [intOf]; omega
    · have hkI : ¬ (i : Int) < N := by omega
      have e : i = N := by have := hR.out; omega
      subst e
      clear hR
      go_wp2_with fail
      refine HI.out.mono ?_
      rintro e w1 ⟨rfl, hw⟩; obtain rfl := hw.symm
      go_wp2
      go_ret
      exact ⟨rfl, rfl⟩
end Go.Proofs.Ytoenipaccnpihaa
