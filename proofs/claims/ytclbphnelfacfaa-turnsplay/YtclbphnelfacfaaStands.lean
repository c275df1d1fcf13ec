/- stands: all that may be looked at. -/
import Derived.Test.YtclbphnelfacfaaDo
import Derived.Test.YtclbphnelfacfaaInts
namespace Go.Proofs.Ytclbphnelfacfaa
open Go.RowKit Go.Shelf

/-- A row of numbers that may be written. -/
def Ow (w : World) (g n : Nat) : Prop := ∃ cur : Array Value, w.heap[g]? = some (.cells cur 3 (0, 0)) ∧ n ≤ cur.size
theorem Ow.put {w : World} {g n : Nat} (h : Ow w g n) (i : Nat) (v : Value) : Ow (w.setCell ⟨g, i, none⟩ v) g n := by
  obtain ⟨cur, h1, h2⟩ := h
  exact ⟨_, heap_setCell_same w g i _ 3 _ h1, by simpa using h2⟩
theorem Ow.cell {w : World} {g n i : Nat} (h : Ow w g n) (hi : i < n) : (∃ v, w.cell? ⟨g, i, none⟩ = some v) ∧ w.frozen? ⟨g, i, none⟩ = false := by
  obtain ⟨cur, h1, h2⟩ := h
  refine ⟨⟨cur[i]'(by omega), ?_⟩, by simp [World.frozen?, h1]⟩
  rw [cell_of_row w g i _ _ _ h1]
  exact Array.getElem?_eq_getElem (by omega)
theorem seqI_no {L : Ls} {p : Int} (h : ¬ (1 ≤ p ∧ p ≤ 31)) : seqI L p = [] := by unfold seqI; rw [if_neg h]
theorem seqI_at (L : Ls) {p : Nat} (h1 : 1 ≤ p) (h2 : p ≤ 31) : seqI L (p : Int) = L p := by
  unfold seqI
  rw [if_pos ⟨by omega, by omega⟩, Int.toNat_natCast]
theorem prI_far {L : Ls} (h : okL L) {t : Int} (ht : ¬ (0 ≤ t ∧ t < 16)) : prI L t = 0 := by
  unfold prI
  by_cases h0 : 0 ≤ t
  · rw [if_pos h0]
    exact okL.none fun p hp => by have := (h.thr p _ hp).1; omega
  · rw [if_neg h0]
section
variable {w w' : World} {xb rb qb q s : Nat} {S : Sh} {L : Ls}
set_option maxRecDepth 100000 in
set_option maxHeartbeats 8000000 in
theorem stands_any (h : Tn w xb rb q S L s) (h' : Rt w qb q L S) (hs : s ≤ 870000) : Calls Try.prog 13 #[.pointer (some ⟨xb, 0, none⟩), .pointer (some ⟨qb, 0, none⟩)] w fun e w' => e = .returned (.bool true) ∧ To w w' xb rb q S L s 1 := by
  have HOK := hid h.rd.ok
  have HT0 := hid h
  have HR0 := hid h'
  clear h h'
  go_enter Try.func13, Try.ntmps13
  go_wp2_with fail
  refine (HT0.out.runs (by omega)).mono ?_
  rintro e w1 ⟨rfl, hT⟩
  have HR1 := hid (HR0.out.over HT0.out hT.2)
  have T1 := hid hT
  obtain ⟨⟨s1, l1, hn⟩, -⟩ := hT
  have HT1 := hid hn
  clear hn HT0 HR0
  obtain ⟨fv, hfv⟩ : ∃ fv, fstV L = fv := ⟨_, rfl⟩
  obtain ⟨fb, hfb⟩ : ∃ fb, fstB L = fb := ⟨_, rfl⟩
  rw [hfv, hfb]
  have HF := hid (And.intro hfv hfb)
  clear hfv hfb
  go_wp2_with fail
  refine (rruns_ok HR1.out HOK.out.len).mono ?_
  rintro e w2 ⟨rfl, hk2⟩
  rw [HF.out.1, HF.out.2]
  have K2 := hid hk2
  clear hk2
  have hbb : (fb != fb) = false := by simp
  go_wp2_with fail
  go_loopw [9, 10] (fun vn v wr => ∃ j : Nat, j ≤ 34 ∧ v = .int .i64 ((j : Int) - 1) ∧ vn = .int .i64 ((seqs L (min (j - 2) 31)).length : Nat) ∧ Hid (Kp w1 wr [])) (fun _ v _ => (34 - (intOf v + 1)).toNat)
  case atStart => exact ⟨0, by omega, rfl, rfl, K2⟩
  case round =>
    obtain ⟨j, hj, rfl, rfl, hK⟩ := hrel
    clear K2
    by_cases hlt : j < 34
    · have hltI : (j : Int) - 1 ≤ 32 := by omega
      have hT := hid (HT1.out.same hK.out)
      obtain ⟨N, hN⟩ : ∃ N, (seqs L (min (j - 2) 31)).length = N := ⟨_, rfl⟩
      rw [hN]
      obtain ⟨P, hP⟩ : ∃ P : Int, (j : Int) - 1 = P := ⟨_, rfl⟩
      rw [hP] at hltI ⊢
      by_cases hin : 1 ≤ P ∧ P ≤ 31
      · obtain ⟨p, rfl⟩ : ∃ p : Nat, P = p := ⟨P.toNat, by omega⟩
        have p1 : 1 ≤ p := by omega
        have p2 : p ≤ 31 := by omega
        have a1 : ¬ (p : Int) < 1 := by omega
        have a2 : ¬ (31 : Int) < p := by omega
        have a3 : (0 : Int) ≤ (p : Int) := by omega
        have a4 : (p : Int) < 32 := by omega
        have hPw : IntKind.i64.wrap ((p : Int) + 1) = (p : Int) + 1 := IntWalk.i64_in _ ⟨by omega, by omega⟩
        have HE := hid (seqI_at L p1 p2)
        have hlp := HOK.out.len p
        have hN16 : N ≤ 10000 := by
          rw [← hN]
          have := (hT.out.rd)
          obtain ⟨c, u, -, hPP⟩ := this
          have h9 : ∀ k, k ≤ 31 → (seqs L k).length ≤ k * 16 := by
            intro k
            induction k with
            | zero => intro _; simp [seqs]
            | succ k ih =>
              intro hk
              have h1 := ih (by omega)
              have h2 := HOK.out.len (k + 1)
              rw [seqs, List.length_append, List.length_map]
              omega
          have := h9 (min (j - 2) 31) (Nat.min_le_right _ _)
          have := Nat.min_le_right (j - 2) 31
          omega
        have HJ := hid (show (seqs L (min (j + 1 - 2) 31)).length = N + (L p).length from by
          rw [← hN, show min (j + 1 - 2) 31 = (p - 1) + 1 by omega, show min (j - 2) 31 = p - 1 by omega, seqs, List.length_append, List.length_map, show p - 1 + 1 = p by omega]
          omega)
        have HP := hid hP
        have HR2 := hid (HR1.out.keep hK.out)
        clear hin hN hP
        go_wp2_with fail
        refine (hT.out.of p).mono ?_
        rintro e w3 ⟨⟨V, rfl, hV⟩, hk3⟩
        rw [HE.out] at hV
        obtain ⟨ao, cap, rfl⟩ := hV.slice
        obtain ⟨V2, cF, hV2⟩ := (HR2.out.keep hk3).seq (p := p) (by omega)
        obtain ⟨ao2, cap2, rfl⟩ := hV2.slice
        have HV := hid hV
        have HV2 := hid hV2
        have K3 := hid (hK.out.trans hk3)
        have KA := hid hk3
        clear hV hk3 hV2
        go_wp2_with fail
        refine (ints_any _ _ _ _ _ (L p) (L p) HV.out HV2.out (by omega) (by omega)).mono ?_
        rintro e w4 ⟨rfl, hk4⟩
        rw [show decide (L p = L p) = true from decide_eq_true rfl]
        have OW := hid (show ∀ g, ao = some ⟨g, 0, none⟩ → wr.heap.size ≤ g ∧ Ow w4 g (L p).length from fun g hg => by
          have h1 := (HV.out.keep hk4)
          subst hg
          obtain ⟨h2, cur, h3⟩ := owns_block h1.1 (g := g) rfl
          refine ⟨h2, cur, h3, ?_⟩
          rcases h1.1.2 with ⟨e, -⟩ | ⟨g', cap', cur', e, -, h4, h5, -, h6, -⟩
          · cases e
          · cases e
            rw [h3] at h4
            cases h4
            omega)
        have K4 := hid (K3.out.trans hk4)
        have KB := hid (KA.out.trans hk4)
        have AO := hid (show ∀ i, i < (L p).length → ∃ g, ao = some ⟨g, 0, none⟩ from fun i hi => by
          obtain ⟨g, e, -⟩ := HV.out.at (k := i) (x := (L p)[i]) (List.getElem?_eq_getElem hi)
          exact ⟨g, e⟩)
        obtain ⟨n, hn⟩ : ∃ n, (L p).length = n := ⟨_, rfl⟩
        rw [hn] at HJ OW hlp AO
        have HNN := hid hn
        clear hk4 HV HV2 cF
        rw [hn]
        clear hn
        have hw9 : IntKind.i64.wrap ((N : Int) + (n : Int)) = (N : Int) + (n : Int) := IntWalk.i64_in _ ⟨by omega, by omega⟩
        have LOW := hid (show ∀ g, ao = some ⟨g, 0, none⟩ → wr.heap.size ≤ g from fun g hg => (OW.out g hg).1)
        have OW2 := hid (show ∀ g, ao = some ⟨g, 0, none⟩ → Ow w4 g n from fun g hg => (OW.out g hg).2)
        clear OW
        go_wp2_with fail
        go_loopw [12] (fun v wr2 => ∃ i : Nat, i ≤ n ∧ v = .int .i64 i ∧ Hid (Kp wr wr2 []) ∧ Hid (∀ g, ao = some ⟨g, 0, none⟩ → Ow wr2 g n)) (fun v _ => n - (intOf v).toNat)
        case atStart => exact ⟨0, by omega, rfl, KB, OW2⟩
        case round =>
          obtain ⟨i, hi, rfl, hK5, hO5⟩ := hrel
          clear OW2
          by_cases hin : i < n
          · have hinI : (i : Int) < n := by omega
            obtain ⟨g, rfl⟩ := AO.out i hin
            obtain ⟨⟨v0, cv⟩, fz⟩ := (hO5.out g rfl).cell hin
            rename_i wr2 _
            have K6 := hid (hK5.out.past (Kp.setCell _ ⟨g, i, none⟩ (.int .i64 99)) (fun x hx hl => by
              have := LOW.out g rfl
              simp at hx
              omega))
            have O6 := hid (fun (g' : Nat) (hg : (some ⟨g, 0, none⟩ : Option Addr) = some ⟨g', 0, none⟩) => show Ow (World.setCell _ ⟨g, i, none⟩ (.int .i64 99)) g' n from by
              cases hg
              exact (hO5.out g rfl).put i (.int .i64 99))
            go_wp2
            go_roundw
            case rel => exact ⟨i + 1, by omega, by simp, K6, O6⟩
            case measure => simp [intOf]; omega
          · have hinI : ¬ (i : Int) < n := by omega
            have K7 := hid (hK.out.trans hK5.out)
            go_wp2
            go_roundw
            case rel => exact ⟨j + 1, by omega, by have := HP.out; simp; omega, by rw [HJ.out]; simp, K7⟩
            case measure => have := HP.out; simp [intOf]; omega
      · have hPp : P < 1 ∨ (¬ P < 1 ∧ 31 < P) := by omega
        have HE := hid (seqI_no (L := L) hin)
        have hPw : IntKind.i64.wrap (P + 1) = P + 1 := IntWalk.i64_in _ ⟨by omega, by omega⟩
        have HJ := hid (show (seqs L (min (j + 1 - 2) 31)).length = N from by
          rw [← hN]
          congr 2
          omega)
        have HP := hid hP
        clear hin hN hP
        go_wp2_with fail
        refine (hT.out.of P).mono ?_
        rintro e w3 ⟨⟨V, rfl, hV⟩, hk3⟩
        rw [HE.out] at hV
        have e0 := hV.2 rfl
        subst e0
        have K3 := hid (hK.out.trans hk3)
        clear hV hk3
        rcases hPp with h1 | ⟨h1, h2⟩
        all_goals
          go_wp2
          go_roundw
          case rel => exact ⟨j + 1, by omega, by have := HP.out; simp; omega, by rw [HJ.out], K3⟩
          case measure => have := HP.out; simp [intOf]; omega
    · have hltI : ¬ (j : Int) - 1 ≤ 32 := by omega
      have HN := hid (show (seqs L (min (j - 2) 31)).length = (seqs L 31).length from by rw [show min (j - 2) 31 = 31 by omega])
      have hT := hid (HT1.out.same hK.out)
      have hR := hid (HR1.out.keep hK.out)
      have TF := hid (show To w wr xb rb q S L s 1 from by
        obtain ⟨h1, h2⟩ := T1.out
        obtain ⟨s2, l2, h3⟩ := h1
        exact ⟨⟨s2, l2, h3.same hK.out⟩, h2.trans hK.out.nil⟩)
      clear HT1 HR1
      rw [HN.out]
      obtain ⟨M, hM⟩ : ∃ M, (seqs L 31).length = M := ⟨_, rfl⟩
      rw [hM]
      have HM := hid hM
      clear hM HN
      go_wp2_with fail
      go_loopw [13] (fun v wr2 => ∃ i : Nat, i ≤ 18 ∧ v = .int .i64 ((i : Int) - 1) ∧ wr2 = wr) (fun v _ => (18 - (intOf v + 1)).toNat)
      case atStart => exact ⟨0, by omega, rfl, rfl⟩
      case round =>
        obtain ⟨i, hi, rfl, hw⟩ := hrel
        have hw := hw.symm
        subst hw
        by_cases hin : i < 18
        · have hinI : (i : Int) - 1 ≤ 16 := by omega
          obtain ⟨P, hP⟩ : ∃ P : Int, (i : Int) - 1 = P := ⟨_, rfl⟩
          rw [hP] at hinI ⊢
          have HP := hid hP
          have hPw : IntKind.i64.wrap (P + 1) = P + 1 := IntWalk.i64_in _ ⟨by omega, by omega⟩
          have cm := rmay_any wr P 1
          have cp := hT.out.prio P
          have cl := hT.out.leftOf P
          by_cases hPt : 0 ≤ P ∧ P < 16
          · obtain ⟨T, rfl⟩ : ∃ T : Nat, P = T := ⟨P.toNat, by omega⟩
            have t1 : T < 16 := by omega
            rw [show decide ((0 ≤ (T : Int) ∧ (T : Int) < 16) ∧ (1 ≤ (1 : Int) ∧ (1 : Int) ≤ 31)) = true from decide_eq_true ⟨hPt, by decide, by decide⟩] at cm
            have cP := Rx.prio hR.out t1
            have cL := Rx.left hR.out t1
            rw [prI_nat] at cp cl
            rw [Int.toNat_natCast] at cl
            (try simp only at cP cL)
            obtain ⟨n, hn⟩ : ∃ n, prN L T 31 = n := ⟨_, rfl⟩
            rw [hn] at cp cl cP
            obtain ⟨e, he⟩ : ∃ e, (S T).2 = e := ⟨_, rfl⟩
            rw [he] at cl cL
            have a3 : (0 : Int) ≤ (T : Int) := by omega
            have a4 : (T : Int) < 16 := by omega
            clear hP hn he hPt
            by_cases hn0 : n = 0
            · subst hn0
              rw [if_pos rfl] at cl
              rw [show decide ((0 : Nat) ≠ 0) = false from rfl] at cp cl
              go_wp2_with fail
              refine cp.mono ?_
              rintro e5 x ⟨rfl, hx⟩
              subst hx
              go_wp2_with fail
              refine cl.mono ?_
              rintro e5 x ⟨rfl, hx⟩
              subst hx
              go_wp2_with fail
              refine cm.mono ?_
              rintro e5 x ⟨rfl, hx⟩
              subst hx
              clear cm cp cl
              go_wp2
              go_roundw
              case rel => exact ⟨i + 1, by omega, by have := HP.out; simp; omega, by first | rfl | trivial⟩
              case measure => have := HP.out; simp [intOf]; omega
            · rw [if_neg hn0] at cl
              rw [show decide (n ≠ 0) = true from decide_eq_true hn0] at cp cl
              have hnp : (0 : Int) < (n : Int) := by omega
              clear hn0
              go_wp2_with fail
              refine cp.mono ?_
              rintro e5 x ⟨rfl, hx⟩
              subst hx
              go_wp2_with fail
              refine cl.mono ?_
              rintro e5 x ⟨rfl, hx⟩
              subst hx
              go_wp2_with fail
              refine cm.mono ?_
              rintro e5 x ⟨rfl, hx⟩
              subst hx
              clear cm cp cl
              go_wp2
              go_roundw
              case rel => exact ⟨i + 1, by omega, by have := HP.out; simp; omega, by first | rfl | trivial⟩
              case measure => have := HP.out; simp [intOf]; omega
          · rw [show decide ((0 ≤ P ∧ P < 16) ∧ (1 ≤ (1 : Int) ∧ (1 : Int) ≤ 31)) = false from decide_eq_false (fun hh => hPt hh.1)] at cm
            have h0 := prI_far HOK.out hPt
            rw [h0] at cp cl
            rw [if_pos rfl] at cl
            rw [show decide ((0 : Nat) ≠ 0) = false from rfl] at cp cl
            clear hP hPt h0
            go_wp2_with fail
            refine cp.mono ?_
            rintro e5 x ⟨rfl, hx⟩
            subst hx
            go_wp2_with fail
            refine cl.mono ?_
            rintro e5 x ⟨rfl, hx⟩
            subst hx
            go_wp2_with fail
            refine cm.mono ?_
            rintro e5 x ⟨rfl, hx⟩
            subst hx
            clear cm cp cl
            go_wp2
            go_roundw
            case rel => exact ⟨i + 1, by omega, by have := HP.out; simp; omega, by first | rfl | trivial⟩
            case measure => have := HP.out; simp [intOf]; omega
        · have hinI : ¬ (i : Int) - 1 ≤ 16 := by omega
          go_wp2_with fail
          refine (hT.out.len).mono ?_
          rintro e5 w9 ⟨rfl, hk9⟩
          rw [HM.out]
          have T9 := hid (show To w w9 xb rb q S L s 1 from by
            obtain ⟨h1, h2⟩ := TF.out
            obtain ⟨s2, l2, h3⟩ := h1
            exact ⟨⟨s2, l2, h3.same hk9⟩, h2.trans hk9.nil⟩)
          clear hk9
          go_wp2
          go_ret
          exact ⟨by simp, T9.out⟩
end
end Go.Proofs.Ytclbphnelfacfaa
