/- WheelTells' walk. -/
import Derived.Test.YtoaceeddcnijoaaTl
import Derived.Test.YtoaceeddcnijoaaArgs
import Derived.Deep.RegionHeldLaw
namespace Go.Proofs.Ytoaceeddcnijoaa
open Go.RowKit Go.Shelf Go.Lib Go.Sort

theorem cell3 (w : World) (k p t : Value) : (w.alloc (.cells #[k, p, t] 32)).cell? ⟨w.heap.size, 0, none⟩ = some k ∧ (w.alloc (.cells #[k, p, t] 32)).cell? ⟨w.heap.size, 1, none⟩ = some p ∧ (w.alloc (.cells #[k, p, t] 32)).cell? ⟨w.heap.size, 2, none⟩ = some t := by
  have h := heap_alloc_new w (.cells #[k, p, t] 32)
  exact ⟨by rw [cell_of_row _ _ _ _ _ _ h]; rfl, by rw [cell_of_row _ _ _ _ _ _ h]; rfl, by rw [cell_of_row _ _ _ _ _ _ h]; rfl⟩
theorem zeroI : (#[.int .i64 0, .int .i64 0, .int .i64 0, .int .i64 0, .int .i64 0, .int .i64 0, .int .i64 0, .int .i64 0, .int .i64 0, .int .i64 0, .int .i64 0, .int .i64 0, .int .i64 0, .int .i64 0, .int .i64 0, .int .i64 0, .int .i64 0, .int .i64 0, .int .i64 0, .int .i64 0, .int .i64 0, .int .i64 0, .int .i64 0, .int .i64 0, .int .i64 0, .int .i64 0, .int .i64 0, .int .i64 0, .int .i64 0, .int .i64 0, .int .i64 0, .int .i64 0, .int .i64 0, .int .i64 0, .int .i64 0, .int .i64 0, .int .i64 0, .int .i64 0, .int .i64 0, .int .i64 0, .int .i64 0, .int .i64 0, .int .i64 0, .int .i64 0, .int .i64 0, .int .i64 0, .int .i64 0, .int .i64 0, .int .i64 0, .int .i64 0, .int .i64 0, .int .i64 0, .int .i64 0, .int .i64 0, .int .i64 0, .int .i64 0, .int .i64 0, .int .i64 0, .int .i64 0, .int .i64 0, .int .i64 0, .int .i64 0, .int .i64 0, .int .i64 0] : Array Value) = (vcl (aI fun _ => 0) 64 0).toArray := rfl
theorem zeroB : (#[.bool false, .bool false, .bool false, .bool false, .bool false, .bool false, .bool false, .bool false, .bool false, .bool false, .bool false, .bool false, .bool false, .bool false, .bool false, .bool false, .bool false, .bool false, .bool false, .bool false, .bool false, .bool false, .bool false, .bool false, .bool false, .bool false, .bool false, .bool false, .bool false, .bool false, .bool false, .bool false, .bool false, .bool false, .bool false, .bool false, .bool false, .bool false, .bool false, .bool false, .bool false, .bool false, .bool false, .bool false, .bool false, .bool false, .bool false, .bool false, .bool false, .bool false, .bool false, .bool false, .bool false, .bool false, .bool false, .bool false, .bool false, .bool false, .bool false, .bool false, .bool false, .bool false, .bool false, .bool false] : Array Value) = (vcl (aB fun _ => false) 64 0).toArray := rfl

set_option maxRecDepth 100000 in
set_option maxHeartbeats 4000000 in
theorem tells_good (w : World) (so : Option Addr) (N sc : Nat) (S : Nat → Sp) (hV : Sc w (.slice so N sc) N S) (from1 : Int) (times : Nat) (hN : N ≤ 100) (hf : 0 ≤ from1 ∧ from1 ≤ 1073741824) (ht : times ≤ 300) :
    Calls Try.prog 4 #[.slice so N sc, .int .i64 from1, .int .i64 times] w fun e w' => e = .returned (.bool true) ∧ Kp w w' [] := by
  obtain ⟨f0, f1⟩ := hf
  have t0 : (0 : Int) ≤ times := by omega
  have t1 : (times : Int) ≤ 300 := by omega
  have hNI : ¬ (100 : Int) < N := by omega
  have HV := hid hV
  clear hV
  go_enter Try.func4, Try.ntmps4
  go_wp2_with fail
  refine (wnew w).mono ?_
  rintro e w1 ⟨rfl, hw, hk⟩
  have HW := hid hw
  have HK := hid hk
  clear hw hk
  go_wp2_with fail
  rw [zeroI, zeroB]
  have k2 := (Kp.alloc w1 (.cells (vcl (aI fun _ => 0) 64 0).toArray 35) []).trans (Kp.alloc _ (.cells (vcl (aB fun _ => false) 64 0).toArray 36) [])
  have T0 := hid (show Tl w ((w1.alloc (.cells (vcl (aI fun _ => 0) 64 0).toArray 35)).alloc (.cells (vcl (aB fun _ => false) 64 0).toArray 36)) w.heap.size w1.heap.size (w1.heap.size + 1) (fun _ => .slice none 0 0) [] (fun _ => 0) (fun _ => false) by
    have hs := HK.out.size
    refine ⟨HW.out.same k2, by rw [rows_new]; simp, ?_, ?_, HK.out.trans k2, hs, by omega⟩
    · exact (Below.heap_alloc _ _ _ (by simp)).trans (heap_alloc_new w1 _)
    · have := heap_alloc_new (w1.alloc (.cells (vcl (aI fun _ => 0) 64 0).toArray 35)) (.cells (vcl (aB fun _ => false) 64 0).toArray 36)
      rw [World.size_alloc] at this
      exact this)
  obtain ⟨W2, hW2⟩ : ∃ W2, (w1.alloc (.cells (vcl (aI fun _ => 0) 64 0).toArray 35)).alloc (.cells (vcl (aB fun _ => false) 64 0).toArray 36) = W2 := ⟨_, rfl⟩
  rw [hW2] at T0 ⊢
  clear hW2 k2 HW HK
  obtain ⟨wb, hwb⟩ : ∃ wb, w.heap.size = wb := ⟨_, rfl⟩
  obtain ⟨ab, hab⟩ : ∃ ab, w1.heap.size = ab := ⟨_, rfl⟩
  obtain ⟨hb, hhb⟩ : ∃ hb, ab + 1 = hb := ⟨_, rfl⟩
  have T1 : Hid (Tl w W2 wb ab hb (fun _ => .slice none 0 0) [] (fun _ => 0) (fun _ => false)) := hid (by rw [← hwb, ← hhb, ← hab]; exact T0.out)
  rw [hwb, hab, hhb]
  clear hwb hab hhb T0
  go_loopw [10] (fun vi W => ∃ i : Nat, i ≤ N ∧ vi = .int .i64 i ∧ Hid (∃ F L A H, Tl w W wb ab hb F L A H ∧ Mt L A H)) (fun vi _ => N - (intOf vi).toNat)
  case atStart => exact ⟨0, by omega, rfl, hid ⟨_, _, _, _, T1.out, mt_nil⟩⟩
  case round =>
    obtain ⟨i, hi, rfl, hI⟩ := hrel
    clear T1
    by_cases hlt : i < N
    · have hltI : (i : Int) < N := by omega
      obtain ⟨F, L, A, H, hT, hM⟩ := hI.out
      obtain ⟨sb, off, rfl, y0, y1, y2, hfit⟩ := (HV.out.keep hT.kp).at hlt
      obtain ⟨k, hk⟩ : ∃ k, (S i).k = k := ⟨_, rfl⟩
      obtain ⟨id, hid1⟩ : ∃ id, (S i).c = id := ⟨_, rfl⟩
      obtain ⟨at1, hat⟩ : ∃ at1, (S i).n = at1 := ⟨_, rfl⟩
      rw [hk] at y0
      rw [hid1] at y1
      rw [hat] at y2
      have TT := hid hT
      have MT := hid hM
      clear hT hM hI hk hid1 hat hfit
      obtain ⟨c0, c1, c2⟩ := cell3 wr (.int .i64 k) (.int .i64 id) (.int .i64 at1)
      have kk := Kp.alloc wr (.cells #[.int .i64 k, .int .i64 id, .int .i64 at1] 32) []
      have TA := hid (TT.out.keep kk)
      have SB := hid (show ∀ j ∈ rows F wb, j < wr.heap.size from fun j hj => TT.out.wl.rowslt hj)
      have SA := hid (And.intro (lt_of_block TT.out.ar) (lt_of_block TT.out.hr))
      obtain ⟨W3, hW3⟩ : ∃ W3, wr.alloc (.cells #[.int .i64 k, .int .i64 id, .int .i64 at1] 32) = W3 := ⟨_, rfl⟩
      rw [hW3] at c0 c1 c2 kk TA
      have C0 := hid (And.intro c0 (And.intro c1 c2))
      have LW := hid TT.out.wl.lw
      obtain ⟨xb, hxb⟩ : ∃ xb, wr.heap.size = xb := ⟨_, rfl⟩
      have CC := hid (show ∀ (w1 : World) (rws : List Nat), Kp W3 w1 rws → xb ∉ rws → w1.cell? ⟨xb, 0, none⟩ = some (.int .i64 k) ∧ w1.cell? ⟨xb, 1, none⟩ = some (.int .i64 id) ∧ w1.cell? ⟨xb, 2, none⟩ = some (.int .i64 at1) from fun w1 rws hk hn => by
        rw [hxb] at C0
        exact ⟨hk.cell C0.out.1 hn, hk.cell C0.out.2.1 hn, hk.cell C0.out.2.2 hn⟩)
      rw [hxb] at c0 c1 c2 SB SA
      clear kk TT
      by_cases h1 : k = 1
      · have kt : (k == 1) = true := by simp [h1]
        have kf2 : (k == 2) = false := by simp [h1]
        clear h1
        go_wp2_with fail
        refine (wset W3 wb F L TA.out.wl id at1).mono ?_
        rintro e w4 ⟨rfl, F1, hw4, hk4, hn4⟩
        have T4 := hid (TA.out.turn hw4 hk4 hn4)
        have hxr : xb ∉ rows F wb := fun hm => by have := SB.out xb hm; omega
        have C4 := hid (CC.out w4 _ hk4 hxr)
        have K34 := hid hk4
        obtain ⟨d0, d1, d2⟩ := C4.out
        clear hw4 hk4 hn4 hxr
        by_cases hm : (mayI id && mayT at1) = true
        · rw [show setE id at1 = 0 by unfold setE; rw [if_pos hm]]
          have hok := okD_of hm
          obtain ⟨⟨a0, a1⟩, -⟩ := hok
          simp only at a0 a1
          obtain ⟨n, rfl⟩ : ∃ n : Nat, id = n := ⟨id.toNat, by omega⟩
          have hn : n < 64 := by omega
          have T5 := hid (show Tl w w4 wb ab hb F1 (ins ((n : Int), at1) (rid n L)) A H by
            have := T4.out
            unfold setL at this
            rw [if_pos hm] at this
            exact this)
          have M5 := hid (MT.out.set LW.out hn (at1 := at1))
          clear T4 hm
          go_wp2_with fail
          have CS := hid (show ∀ w1, Kp w4 w1 [ab, hb] → w1.cell? ⟨xb, 1, none⟩ = some (.int .i64 (n : Nat)) ∧ w1.cell? ⟨xb, 2, none⟩ = some (.int .i64 at1) from fun w1 hk => by
            have hx : xb ∉ [ab, hb] := by have := SA.out; simp; omega
            exact ⟨hk.cell C4.out.2.1 hx, hk.cell C4.out.2.2 hx⟩)
          have T6 := hid (((T5.out.setA n hn at1).setH n hn true).keep (Kp.drew _ []))
          have KA := hid (show Kp w4 (w4.setCell ⟨ab, n, none⟩ (.int .i64 at1)) [ab, hb] from (Kp.setCell w4 ⟨ab, n, none⟩ (.int .i64 at1)).mono (by intro k hk _; simp at hk; simp [hk]))
          have KB := hid (KA.out.trans ((Kp.setCell (w4.setCell ⟨ab, n, none⟩ (.int .i64 at1)) ⟨hb, n, none⟩ (.bool true)).mono (by intro k hk _; simp at hk; simp [hk])))
          have fa := T5.out.ar.free n
          have fh := T5.out.hr.free n
          have fh1 := (T5.out.setA n hn at1).hr.free n
          have ca := T5.out.ar.cell n hn
          have ch := T5.out.hr.cell n hn
          have ch1 := (T5.out.setA n hn at1).hr.cell n hn
          have S0 := hid (CS.out w4.drew (Kp.drew _ _))
          have S1 := hid (CS.out _ (KA.out.trans (Kp.drew _ _)))
          have S2 := hid (CS.out _ (KB.out.trans (Kp.drew _ _)))
          go_region_held_law (fun w2 => w2.cell? ⟨xb, 1, none⟩ = some (.int .i64 (n : Nat)) ∧ w2.cell? ⟨xb, 2, none⟩ = some (.int .i64 at1))
            (first | with_reducible exact S0.out | with_reducible exact S1.out | with_reducible exact S2.out)
            (fail)
          have C6 := hid (show _ from (CC.out _ _ (show Kp W3 ((w4.setCell ⟨ab, n, none⟩ (.int .i64 at1)).setCell ⟨hb, n, none⟩ (.bool true)).drew (ab :: hb :: rows F wb) from (K34.out.mono (by intro k hk _; simp [hk])).trans ((KB.out.trans (Kp.drew _ _)).mono (by intro k hk _; simp at hk; rcases hk with rfl | rfl <;> simp))) (by have h1 := SA.out; have h2 := fun hm => SB.out xb hm; simp only [List.mem_cons, not_or]; refine ⟨by omega, by omega, fun hm => by have := h2 hm; omega⟩)))
          obtain ⟨W6, hW6⟩ : ∃ W6, ((w4.setCell ⟨ab, n, none⟩ (.int .i64 at1)).setCell ⟨hb, n, none⟩ (.bool true)).drew = W6 := ⟨_, rfl⟩
          rw [hW6] at T6 C6 ⊢
          obtain ⟨e0, e1, e2⟩ := C6.out
          clear S0 S1 S2 fa fh fh1 ca ch ch1 KA KB hW6 d0 d1 d2 CS T5
          go_wp2
          go_roundw
          case rel => exact ⟨i + 1, by omega, by simp, hid ⟨_, _, _, _, T6.out, M5.out⟩⟩
          case measure => simp [intOf]; omega
        · rw [show setE id at1 = 2 by unfold setE; rw [if_neg hm]]
          have T5 := hid (show Tl w w4 wb ab hb F1 L A H by
            have := T4.out
            unfold setL at this
            rw [if_neg hm] at this
            exact this)
          clear T4 hm
          go_wp2
          go_roundw
          case rel => exact ⟨i + 1, by omega, by simp, hid ⟨_, _, _, _, T5.out, MT.out⟩⟩
          case measure => simp [intOf]; omega
      · have kf1 : (k == 1) = false := by simp [h1]
        by_cases h2 : k = 2
        · have kt : (k == 2) = true := by simp [h2]
          clear h1 h2
          go_wp2_with fail
          refine (wcancel W3 wb F L TA.out.wl id).mono ?_
          rintro e w4 ⟨rfl, F1, hw4, hk4, hn4⟩
          have T4 := hid (TA.out.turn hw4 hk4 hn4)
          have hxr : xb ∉ rows F wb := fun hm => by have := SB.out xb hm; omega
          have C4 := hid (CC.out w4 _ hk4 hxr)
          obtain ⟨d0, d1, d2⟩ := C4.out
          clear hw4 hk4 hn4 hxr
          by_cases hm : mayI id = true ∧ L.any (fun x => x.1 == id) = true
          · rw [show canE id L = 0 by unfold canE; rw [if_pos hm.1, if_pos hm.2]]
            have hb1 : 0 ≤ id ∧ id < 64 := by have := hm.1; unfold mayI at this; simpa using this
            obtain ⟨a0, a1⟩ := hb1
            obtain ⟨n, rfl⟩ : ∃ n : Nat, id = n := ⟨id.toNat, by omega⟩
            have hn : n < 64 := by omega
            have T5 := hid (show Tl w w4 wb ab hb F1 (rid n L) A H by
              have := T4.out
              unfold canL at this
              rw [if_pos hm.1] at this
              exact this)
            have M5 := hid (MT.out.can LW.out hn)
            have T6 := hid (T5.out.setH n hn false)
            have fh := T5.out.hr.free n
            have ch := T5.out.hr.cell n hn
            clear T4 hm
            go_wp2
            go_roundw
            case rel => exact ⟨i + 1, by omega, by simp, hid ⟨_, _, _, _, T6.out, M5.out⟩⟩
            case measure => simp [intOf]; omega
          · have HE := hid (show ¬ canE id L = 0 by
              unfold canE
              by_cases q1 : mayI id = true
              · rw [if_pos q1]
                by_cases q2 : L.any (fun x => x.1 == id) = true
                · exact absurd ⟨q1, q2⟩ hm
                · rw [if_neg q2]; decide
              · rw [if_neg q1]; decide)
            have T5 := hid (show Tl w w4 wb ab hb F1 L A H by
              have := T4.out
              unfold canL at this
              by_cases q1 : mayI id = true
              · rw [if_pos q1, rid_none (fun d hd => by
                  have h3 : ¬ L.any (fun x => x.1 == id) = true := fun q2 => hm ⟨q1, q2⟩
                  rw [List.any_eq_true] at h3
                  cases hq : (d.1 == id) with
                  | false => rfl
                  | true => exact absurd ⟨d, hd, hq⟩ h3)] at this
                exact this
              · rw [if_neg q1] at this
                exact this)
            obtain ⟨E, hE⟩ : ∃ E, canE id L = E := ⟨_, rfl⟩
            have hE0 : (E == 0) = false := by rw [← hE]; simpa using HE.out
            rw [hE]
            clear T4 hm HE hE
            go_wp2
            go_roundw
            case rel => exact ⟨i + 1, by omega, by simp, hid ⟨_, _, _, _, T5.out, MT.out⟩⟩
            case measure => simp [intOf]; omega
        · have kf2 : (k == 2) = false := by simp [h2]
          clear h1 h2
          go_wp2
          go_roundw
          case rel => exact ⟨i + 1, by omega, by simp, hid ⟨_, _, _, _, TA.out, MT.out⟩⟩
          case measure => simp [intOf]; omega
    · have hltI : ¬ (i : Int) < N := by omega
      clear HV
      go_wp2_with fail
      go_loopw [12] (fun vn W => ∃ j : Nat, j ≤ times ∧ vn = .int .i64 (from1 + j) ∧ Hid (∃ F L A H, Tl w W wb ab hb F L A H ∧ Mt L A H ∧ (0 < j → ∀ x ∈ L, from1 + j ≤ x.2))) (fun vn _ => times - (intOf vn - from1).toNat)
      case atStart =>
        obtain ⟨F, L, A, H, hT, hM⟩ := hI.out
        exact ⟨0, by omega, by simp, hid ⟨F, L, A, H, hT, hM, fun h => by omega⟩⟩
      case round =>
        obtain ⟨j, hj, rfl, hJ⟩ := hrel
        clear hI
        obtain ⟨F, L, A, H, hT, hM, hge⟩ := hJ.out
        have TT := hid hT
        have MT := hid hM
        have GE := hid hge
        clear hT hM hge hJ
        by_cases hjt : j < times
        · have hjI : from1 + (j : Int) < from1 + times := by omega
          obtain ⟨now, hnow⟩ : ∃ now, from1 + (j : Int) = now := ⟨_, rfl⟩
          have HNOW := hid hnow
          have hnb : 0 ≤ now ∧ now ≤ 1073742124 := by omega
          rw [hnow] at GE hjI ⊢
          clear hnow
          go_wp2_with fail
          refine (wdue wr wb F L TT.out.wl now).mono ?_
          rintro e w4 ⟨v, rfl, hNs, F1, hw4, hk4, hn4⟩
          have T4 := hid (TT.out.turn hw4 hk4 hn4)
          have LW := hid TT.out.wl.lw
          have MD := hid (MT.out.due LW.out now)
          obtain ⟨ao, cap, hv⟩ := hNs.slice
          obtain ⟨M, hMl⟩ : ∃ M, (dueO now L).length = M := ⟨_, rfl⟩
          rw [hMl] at hv
          subst hv
          have NS := hid hNs
          have HM := hid hMl
          have hM64 : M ≤ 64 := by
            have h1 := LW.out.len
            rw [← hMl]
            unfold dueO
            rw [List.length_map]
            have h2 := List.length_filter_le (fun x : Dl => decide (x.2 ≤ now)) L
            omega
          have HBW := hid (show hb < wr.heap.size from lt_of_block TT.out.hr)
          obtain ⟨bs, hbs⟩ : ∃ bs, wr.heap.size = bs := ⟨_, rfl⟩
          rw [hbs] at NS HBW
          clear hw4 hk4 hn4 hNs hMl hbs
          go_wp2_with fail
          go_loopw [14] (fun vi W => ∃ i : Nat, i ≤ M ∧ vi = .int .i64 i ∧ Hid (Tl w W wb ab hb F1 (dueL now L) A (offs H ((dueO now L).take i)) ∧ Ns W bs (.slice ao M cap) (dueO now L))) (fun vi _ => M - (intOf vi).toNat)
          case atStart => exact ⟨0, by omega, rfl, hid ⟨by rw [List.take_zero]; exact T4.out, NS.out⟩⟩
          case round =>
            obtain ⟨q, hq, rfl, hQ⟩ := hrel
            clear T4 NS
            obtain ⟨hT, hNs⟩ := hQ.out
            have TQ := hid hT
            have NQ := hid hNs
            clear hT hNs hQ
            by_cases hqM : q < M
            · have hqI : (q : Int) < M := by omega
              have hql : q < (dueO now L).length := by have := HM.out; omega
              obtain ⟨g, rfl, cg⟩ := NQ.out.at hql
              obtain ⟨x, hxL, hx1, hx2⟩ : ∃ x, x ∈ L ∧ (dueO now L)[q]! = x.1 ∧ x.2 ≤ now := by
                rw [getElem!_pos _ q hql]
                have hmem : (dueO now L)[q] ∈ dueO now L := List.getElem_mem hql
                obtain ⟨x, hx, he⟩ := List.mem_map.1 hmem
                obtain ⟨h1, h2⟩ := List.mem_filter.1 hx
                exact ⟨x, h1, he.symm, by simpa using h2⟩
              have hok := (LW.out.ok x hxL).1
              obtain ⟨n, hn⟩ : ∃ n : Nat, x.1 = n := ⟨x.1.toNat, by omega⟩
              have hn64 : n < 64 := by omega
              have hnI : (n : Int) < 64 := by omega
              have hto := MT.out.to x hxL
              rw [hn, Int.toNat_natCast] at hto
              rw [hx1, hn] at cg
              have hHn : offs H ((dueO now L).take q) n = true := by
                rw [offs_at, hto.1, Bool.true_and]
                simp only [Bool.not_eq_true', List.any_eq_false, beq_iff_eq]
                intro a ha e
                have hnd : (dueO now L).Nodup := LW.out.once.sublist ((List.filter_sublist).map _)
                have hsp : (dueO now L).take (q + 1) = (dueO now L).take q ++ [(dueO now L)[q]!] := take_int hql
                have hnd2 : ((dueO now L).take (q + 1)).Nodup := hnd.sublist (List.take_sublist _ _)
                rw [hsp, hx1, hn] at hnd2
                have h3 := (List.nodup_append.1 hnd2).2.2 a ha (n : Int) (by simp)
                have ha2 : a ∈ dueO now L := (List.take_sublist _ _).subset ha
                obtain ⟨y, hy, rfl⟩ := List.mem_map.1 ha2
                have := (LW.out.ok y (List.mem_filter.1 hy).1).1
                exact h3 (by omega)
              have ch := TQ.out.hr.cell n hn64
              have ca := TQ.out.ar.cell n hn64
              have fh := TQ.out.hr.free n
              simp only [aB, aI, hHn, hto.2] at ch ca
              have hcond : x.2 < now → (now != from1) = false := fun hl => by
                have h1 := HNOW.out
                by_cases hj0 : 0 < j
                · have := GE.out hj0 x hxL; omega
                · have : now = from1 := by omega
                  simp [this]
              have T5 := hid (show Tl w (wr.setCell ⟨hb, n, none⟩ (.bool false)) wb ab hb F1 (dueL now L) A (offs H ((dueO now L).take (q + 1))) by
                have h1 := TQ.out.setH n hn64 false
                rw [take_int hql, hx1, hn, offs_snoc, Int.toNat_natCast]
                exact h1)
              have N5 := hid (show Ns (wr.setCell ⟨hb, n, none⟩ (.bool false)) bs (.slice (some ⟨g, 0, none⟩) M cap) (dueO now L) from owns_kp NQ.out (Kp.setCell wr ⟨hb, n, none⟩ (.bool false)) fun gg hgg => by
                have h1 := (owns_block NQ.out hgg).1
                have h2 := HBW.out
                simp; omega)
              by_cases hl : x.2 < now
              case' pos => have hcd := hcond hl
              case' neg => have hcd := hx2
              all_goals
                clear hcond hto hxL hx1 hn hok hql hHn
                go_wp2
                go_roundw
                case rel => exact ⟨q + 1, by omega, by simp, hid ⟨T5.out, N5.out⟩⟩
                case measure => simp [intOf]; omega
            · have hqI : ¬ (q : Int) < M := by omega
              have T6 := hid (show Tl w wr wb ab hb F1 (dueL now L) A (offs H (dueO now L)) by
                have := TQ.out
                rw [List.take_of_length_le (by have := HM.out; omega)] at this
                exact this)
              clear TQ NQ
              go_wp2_with fail
              go_loopw [16] (fun vn W => ∃ n : Nat, n ≤ 64 ∧ vn = .int .i64 n ∧ Hid (Tl w W wb ab hb F1 (dueL now L) A (offs H (dueO now L)))) (fun vn _ => 64 - (intOf vn).toNat)
              case atStart => exact ⟨0, by omega, rfl, T6⟩
              case round =>
                obtain ⟨n, hn, rfl, hT⟩ := hrel
                clear T6
                by_cases hn64 : n < 64
                · have hnI : (n : Int) < 64 := by omega
                  have ch := hT.out.hr.cell n hn64
                  have ca := hT.out.ar.cell n hn64
                  simp only [aB, aI] at ch ca
                  have hA : offs H (dueO now L) n = true → ¬ A n ≤ now := fun h1 => by
                    obtain ⟨x, hx, hx1⟩ := MD.out.back n hn64 h1
                    have h2 := MD.out.to x hx
                    rw [hx1, Int.toNat_natCast] at h2
                    have h3 := (List.mem_filter.1 hx).2
                    simp only [Bool.not_eq_true', decide_eq_false_iff_not] at h3
                    rw [h2.2]
                    exact h3
                  cases hO : offs H (dueO now L) n with
                  | true =>
                    have hA2 := hA hO
                    rw [hO] at ch
                    clear hA hO
                    go_wp2
                    go_roundw
                    case rel => exact ⟨n + 1, by omega, by simp, hT⟩
                    case measure => simp [intOf]; omega
                  | false =>
                    rw [hO] at ch
                    clear hA hO
                    go_wp2
                    go_roundw
                    case rel => exact ⟨n + 1, by omega, by simp, hT⟩
                    case measure => simp [intOf]; omega
                · have hnI : ¬ (n : Int) < 64 := by omega
                  have GE2 := hid (show ∀ x ∈ dueL now L, now + 1 ≤ x.2 from fun x hx => by
                    have h3 := (List.mem_filter.1 hx).2
                    simp only [Bool.not_eq_true', decide_eq_false_iff_not] at h3
                    omega)
                  go_wp2
                  go_roundw
                  case rel => exact ⟨j + 1, by omega, by have := HNOW.out; simp; omega, hid ⟨F1, dueL now L, A, _, hT.out, MD.out, fun _ x hx => by have h1 := GE2.out x hx; have h2 := HNOW.out; push_cast; omega⟩⟩
                  case measure => have := HNOW.out; simp [intOf]; omega
        · have hjI : ¬ from1 + (j : Int) < from1 + times := by omega
          have KT := hid TT.out.kp
          clear TT MT GE
          go_wp2_with fail
          refine (known_any _).mono ?_
          rintro e W9 ⟨rfl, k9⟩
          have K9 := hid (KT.out.trans k9)
          clear k9
          go_wp2
          go_ret
          exact ⟨rfl, K9.out⟩
end Go.Proofs.Ytoaceeddcnijoaa
