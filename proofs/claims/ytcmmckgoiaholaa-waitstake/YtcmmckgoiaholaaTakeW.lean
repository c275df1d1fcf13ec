/- WaitsTake's walk. -/
import Derived.Test.YtcmmckgoiaholaaBest
import Derived.Test.YtcmmckgoiaholaaArgs
namespace Go.Proofs.Ytcmmckgoiaholaa
open Go.RowKit Go.Shelf Go.Lib Go.Sort Go.Maps

theorem put_ok {L : List Dl} {t p : Int} (h : putE L t p = 0) : putL L t p = L ++ [(t, p)] ∧ (0 ≤ t ∧ t < 16) ∧ t ∉ L.map (·.1) := by
  unfold putE at h
  unfold putL
  split at h
  · rename_i hm
    split at h
    · cases h
    · rename_i hn
      rw [if_pos hm, if_neg hn]
      refine ⟨rfl, ?_, has_none.1 (by simpa using hn)⟩
      simp [mayT, mayP] at hm
      exact hm.1
  · cases h
theorem put_no {L : List Dl} {t p : Int} (h : putE L t p ≠ 0) : putL L t p = L := by
  unfold putE at h
  unfold putL
  split at h
  · rename_i hm
    split at h
    · rename_i hn
      rw [if_pos hm, if_pos hn]
    · exact absurd rfl h
  · rename_i hm
    rw [if_neg hm]
theorem lv_ok {L : List Dl} {t : Int} (h : lvE L t = 0) : lvL L t = delP L t ∧ 0 ≤ t ∧ t < 16 := by
  unfold lvE at h
  unfold lvL
  split at h
  · rename_i hm
    rw [if_pos hm]
    simp [mayT] at hm
    exact ⟨rfl, hm⟩
  · cases h
theorem lv_no {L : List Dl} {t : Int} (h : lvE L t ≠ 0) : lvL L t = L := by
  unfold lvE at h
  unfold lvL
  split at h
  · rename_i hm
    split at h
    · exact absurd rfl h
    · rename_i hn
      rw [if_pos hm, del_none (by simpa using hn)]
  · rename_i hm
    rw [if_neg hm]
theorem chg_keys (L : List Dl) (t p : Int) : (chgL L t p).map (·.1) = L.map (·.1) := by
  unfold chgL
  split
  · split
    · exact ch_keys L t p
    · rfl
  · rfl
theorem take_len {L : List Dl} (h : okL L) (hne : L ≠ []) : (takeL L).length + 1 = L.length := by
  have hB : fstB L = true := by
    unfold fstB
    have := ord_len h
    cases hz : ordL L with
    | nil => rw [hz] at this; simp at this; exact absurd (List.eq_nil_of_length_eq_zero this.symm) hne
    | cons x r => rfl
  obtain ⟨x, hx, e⟩ := mem_has.1 (fst_has h hB)
  obtain ⟨i, hi, ei⟩ := List.getElem_of_mem hx
  have hl : takeL L = delP L (fstT L) := by unfold takeL; rw [hB]; rfl
  rw [hl, del_at h hi (by rw [getElem!_pos L i hi, ei, e])]
  simp
  omega
theorem take_nil : takeL [] = [] := by unfold takeL; rw [fst_nil.2]; rfl
theorem tk_start {w w1 w2 : World} {wb pb : Nat} (h : Wt w2 wb pb (.slice none 0 0) []) (k1 : Kp w w1 []) (k2 : Kp w1 w2 []) (hb : w1.heap.size ≤ wb) (hp : w1.heap.size ≤ pb) : Tk w (w2.alloc (.cells (cmL fun _ => 0).toArray 39)) wb w2.heap.size [] (fun _ => 0) 0 := by
  have ka := Kp.alloc w2 (.cells (cmL fun _ => 0).toArray 39) []
  have h1 := k1.size
  have h2 := k2.size
  exact ⟨⟨_, ⟨pb, _, rfl, h.same ka⟩, fun k hk => by simp [rows, Value.ownBlock] at hk; omega⟩, heap_alloc_new w2 _, by omega, cw_new, (k1.trans k2).trans ka⟩
set_option maxRecDepth 100000 in
set_option maxHeartbeats 4000000 in
theorem take_walk (w : World) (V : Value) (N : Nat) (S : Nat → Sp) (hV : Sc w V N S) :
    Calls Try.prog 5 #[V] w fun e w' => e = .returned (.bool true) ∧ Kp w w' [] := by
  obtain ⟨so, sc, rfl⟩ := hV.shape
  have HV := hid hV
  clear hV
  go_enter Try.func5, Try.ntmps5
  go_wp2_with fail
  refine (known_any w).mono ?_
  rintro e w1 ⟨rfl, k1⟩
  have K1 := hid k1
  clear k1
  go_wp2_with fail
  refine (new_any w1).mono ?_
  rintro e w2 ⟨wb, pb, rfl, hW, hb, hp, k2⟩
  have T0 := hid (tk_start hW K1.out k2 hb hp)
  clear hW hb hp k2
  obtain ⟨cb, hcb⟩ : ∃ cb, w2.heap.size = cb := ⟨_, rfl⟩
  rw [show (cmL fun _ => 0).toArray = #[.int .i64 0, .int .i64 0, .int .i64 0, .int .i64 0, .int .i64 0, .int .i64 0, .int .i64 0, .int .i64 0, .int .i64 0, .int .i64 0, .int .i64 0, .int .i64 0, .int .i64 0, .int .i64 0, .int .i64 0, .int .i64 0] from rfl, hcb] at T0
  go_wp2_with fail
  clear hcb
  go_loopw [5] (fun vi W => ∃ i : Nat, i ≤ 200 ∧ vi = .int .i64 i ∧ Hid (∃ L c, Tk w W wb cb L c i)) (fun vi _ => 200 - (intOf vi).toNat)
  case atStart => exact ⟨0, by omega, rfl, hid ⟨[], _, T0.out⟩⟩
  case round =>
    obtain ⟨i, hi, rfl, hR⟩ := hrel
    clear T0
    by_cases hin : i < N ∧ i < 200
    · have h1 : (i : Int) < N := by omega
      have h2 : (i : Int) < 200 := by omega
      obtain ⟨L, c, hT⟩ := hR.out
      obtain ⟨sb, off, rfl, y0, y1, y2⟩ := (HV.out.keep hT.kp).at hin.1
      obtain ⟨k, hk⟩ : ∃ k, (S i).k = k := ⟨_, rfl⟩
      obtain ⟨tt, htt⟩ : ∃ tt, (S i).t = tt := ⟨_, rfl⟩
      obtain ⟨pp, hpp⟩ : ∃ pp, (S i).p = pp := ⟨_, rfl⟩
      rw [hk] at y0
      rw [htt] at y1
      rw [hpp] at y2
      clear hk htt hpp
      have hi2 : i < 200 := hin.2
      have hwr : IntKind.i64.wrap ((i : Int) + 1) = (i : Int) + 1 := IntWalk.i64_in _ ⟨by omega, by omega⟩
      obtain ⟨s0, s1, s2⟩ := cell3 wr (.int .i64 k) (.int .i64 tt) (.int .i64 pp)
      have T1 := hid (hT.same (Kp.alloc wr (.cells #[.int .i64 k, .int .i64 tt, .int .i64 pp] 32) []))
      have BX := hid (show ∀ (W : World) (R : List Nat), (∀ x ∈ R, x < wr.heap.size) → Kp (wr.alloc (.cells #[.int .i64 k, .int .i64 tt, .int .i64 pp] 32)) W R → W.cell? ⟨wr.heap.size, 1, none⟩ = some (.int .i64 tt) from fun W R hR hk => hk.cell s1 (fun hm => by have := hR _ hm; omega))
      have HLT := hid (show ∃ R, Wr wr wb R L ∧ ∀ x ∈ R, w.heap.size ≤ x from hT.ex)
      clear hT hR hin
      by_cases k1 : k = 1
      · have kt : (k == 1) = true := by simp [k1]
        clear k1
        obtain ⟨R, hw1, hw2⟩ := HLT.out
        have ka := Kp.alloc wr (.cells #[.int .i64 k, .int .i64 tt, .int .i64 pp] 32) []
        have cp := (hw1.same ka).put tt pp
        have W1 := hid (And.intro (hw1.same ka) (And.intro hw2 hw1.lt))
        clear hw1 hw2 ka
        go_wp2_with fail
        refine cp.mono ?_
        rintro e w3 ⟨rfl, R', c1, c2, c3⟩
        have TQ := hid (tq_of T1.out W1.out.1 W1.out.2.1 c1 c2 c3)
        have b1 := BX.out w3 R W1.out.2.2 c3
        clear c1 c2 c3
        by_cases he : putE L tt pp = 0
        · obtain ⟨e1, e2, e3⟩ := put_ok he
          obtain ⟨m, rfl⟩ : ∃ m : Nat, tt = m := ⟨tt.toNat, by omega⟩
          have hm16 : m < 16 := by omega
          have hmI : (m : Int) < 16 := by omega
          obtain ⟨q1, q2⟩ := TQ.out.cm.cell hm16
          rw [he]
          have T2 := hid (TQ.out.set (i := m) hm16 (x := (i : Int) + 1) (n := ((i + 1 : Nat) : Int)) (by
            rw [e1, List.map_append]
            have := T1.out.cw.put T1.out.ok.keys e2 e3 (by omega)
            rw [show ((m : Int)).toNat = m by omega] at this
            exact this))
          clear he e1 e2 e3
          go_wp2_with (go_at_call 13; go_in)
          go_roundw
          case rel => exact ⟨i + 1, by omega, by simp, hid ⟨_, _, T2.out⟩⟩
          case measure => simp [intOf]; omega
        · have T2 := hid (TQ.out.tk (n := ((i + 1 : Nat) : Int)) (by
            rw [put_no he]
            exact T1.out.cw.later (by omega)))
          obtain ⟨E, hE⟩ : ∃ E, putE L tt pp = E := ⟨_, rfl⟩
          rw [hE] at he ⊢
          have heI : (E == 0) = false := by simp [he]
          clear hE he
          go_wp2_with (go_at_call 13; go_in)
          go_roundw
          case rel => exact ⟨i + 1, by omega, by simp, hid ⟨_, _, T2.out⟩⟩
          case measure => simp [intOf]; omega
      by_cases k2 : k = 2
      · have kt : (k == 2) = true := by simp [k2]
        have kf1 : (k == 1) = false := by simp [k1]
        clear k1 k2
        obtain ⟨R, hw1, hw2⟩ := HLT.out
        have ka := Kp.alloc wr (.cells #[.int .i64 k, .int .i64 tt, .int .i64 pp] 32) []
        have cp := (hw1.same ka).chg tt pp
        have W1 := hid (And.intro (hw1.same ka) (And.intro hw2 hw1.lt))
        clear hw1 hw2 ka
        go_wp2_with fail
        refine cp.mono ?_
        rintro e w3 ⟨rfl, R', c1, c2, c3⟩
        have T2 := hid ((tq_of T1.out W1.out.1 W1.out.2.1 c1 c2 c3).tk (n := ((i + 1 : Nat) : Int)) (by rw [chg_keys]; exact T1.out.cw.later (by omega)))
        clear c1 c2 c3
        go_wp2
        go_roundw
        case rel => exact ⟨i + 1, by omega, by simp, hid ⟨_, _, T2.out⟩⟩
        case measure => simp [intOf]; omega
      by_cases k3 : k = 3
      · have kt : (k == 3) = true := by simp [k3]
        have kf1 : (k == 1) = false := by simp [k1]
        have kf2 : (k == 2) = false := by simp [k2]
        clear k1 k2 k3
        obtain ⟨R, hw1, hw2⟩ := HLT.out
        have ka := Kp.alloc wr (.cells #[.int .i64 k, .int .i64 tt, .int .i64 pp] 32) []
        have cp := (hw1.same ka).lv tt
        have W1 := hid (And.intro (hw1.same ka) (And.intro hw2 hw1.lt))
        clear hw1 hw2 ka
        go_wp2_with fail
        refine cp.mono ?_
        rintro e w3 ⟨rfl, R', c1, c2, c3⟩
        have TQ := hid (tq_of T1.out W1.out.1 W1.out.2.1 c1 c2 c3)
        have b1 := BX.out w3 R W1.out.2.2 c3
        clear c1 c2 c3
        by_cases he : lvE L tt = 0
        · obtain ⟨e1, e2⟩ := lv_ok he
          obtain ⟨m, rfl⟩ : ∃ m : Nat, tt = m := ⟨tt.toNat, by omega⟩
          have hm16 : m < 16 := by omega
          have hmI : (m : Int) < 16 := by omega
          obtain ⟨q1, q2⟩ := TQ.out.cm.cell hm16
          rw [he]
          have T2 := hid (TQ.out.set (i := m) hm16 (x := 0) (n := ((i + 1 : Nat) : Int)) (by
            rw [e1, del_keys]
            have := (T1.out.cw.del T1.out.ok.keys e2).later (m := ((i + 1 : Nat) : Int)) (by omega)
            rw [show ((m : Int)).toNat = m by omega] at this
            exact this))
          clear he e1 e2
          go_wp2_with (go_at_call 13; go_in)
          go_roundw
          case rel => exact ⟨i + 1, by omega, by simp, hid ⟨_, _, T2.out⟩⟩
          case measure => simp [intOf]; omega
        · have T2 := hid (TQ.out.tk (n := ((i + 1 : Nat) : Int)) (by
            rw [lv_no he]
            exact T1.out.cw.later (by omega)))
          obtain ⟨E, hE⟩ : ∃ E, lvE L tt = E := ⟨_, rfl⟩
          rw [hE] at he ⊢
          have heI : (E == 0) = false := by simp [he]
          clear hE he
          go_wp2_with (go_at_call 13; go_in)
          go_roundw
          case rel => exact ⟨i + 1, by omega, by simp, hid ⟨_, _, T2.out⟩⟩
          case measure => simp [intOf]; omega
      have kf1 : (k == 1) = false := by simp [k1]
      have kf2 : (k == 2) = false := by simp [k2]
      have kf3 : (k == 3) = false := by simp [k3]
      by_cases k4 : k = 4
      · have kt : (k == 4) = true := by simp [k4]
        clear k1 k2 k3 k4
        have cp := best_any w _ wb cb L c i T1.out
        go_wp2_with fail
        refine cp.mono ?_
        rintro e w3 ⟨rfl, c', hT2⟩
        have T2 := hid (show Tk w w3 wb cb (takeL L) c' ((i + 1 : Nat) : Int) from ⟨hT2.ex, hT2.cm, hT2.ge, hT2.cw.later (by omega), hT2.kp⟩)
        clear hT2
        go_wp2
        go_roundw
        case rel => exact ⟨i + 1, by omega, by simp, hid ⟨_, _, T2.out⟩⟩
        case measure => simp [intOf]; omega
      · have kf4 : (k == 4) = false := by simp [k4]
        clear k1 k2 k3 k4
        have T2 := hid (show Tk w (wr.alloc (.cells #[.int .i64 k, .int .i64 tt, .int .i64 pp] 32)) wb cb L c ((i + 1 : Nat) : Int) from ⟨T1.out.ex, T1.out.cm, T1.out.ge, T1.out.cw.later (by omega), T1.out.kp⟩)
        go_wp2
        go_roundw
        case rel => exact ⟨i + 1, by omega, by simp, hid ⟨_, _, T2.out⟩⟩
        case measure => simp [intOf]; omega
    · have hx : ¬ (i : Int) < N ∨ ((i : Int) < N ∧ ¬ (i : Int) < 200) := by omega
      clear hin
      obtain ⟨L, c, hT⟩ := hR.out
      have HT := hid hT
      have cl := len_any wr _ L hT.vw
      obtain ⟨M, hM⟩ : ∃ M, L.length = M := ⟨_, rfl⟩
      rw [hM] at cl
      have HM := hid hM
      have hM16 : M ≤ 16 := by have := hT.ok.len; omega
      clear hT hR hM
      rcases hx with h1 | ⟨h1, h2⟩
      all_goals go_wp2_with fail
      all_goals
        refine cl.mono ?_
        rintro e w3 ⟨rfl, rfl⟩
        go_wp2_with fail
        go_loopw [8] (fun vi W => ∃ j : Nat, j ≤ M ∧ vi = .int .i64 j ∧ Hid (∃ L c, Tk w W wb cb L c i ∧ L.length + j = M)) (fun vi _ => M - (intOf vi).toNat)
        case atStart => exact ⟨0, by omega, rfl, hid ⟨L, c, HT.out, HM.out⟩⟩
        case round =>
          obtain ⟨j, hj, rfl, hR⟩ := hrel
          obtain ⟨L, c, hT, hlen⟩ := hR.out
          by_cases hlt : j < M
          · have hltI : (j : Int) < M := by omega
            have cp := best_any w _ wb cb L c i hT
            have HLEN := hid (take_len hT.ok (by rintro rfl; simp at hlen; omega))
            have HL2 := hid hlen
            clear hT hR hlen
            go_wp2_with fail
            refine cp.mono ?_
            rintro e w4 ⟨rfl, c', hT2⟩
            have T2 := hid hT2
            clear hT2
            go_wp2
            go_roundw
            case rel => exact ⟨j + 1, by omega, by simp, hid ⟨_, _, T2.out, by have := HLEN.out; have := HL2.out; omega⟩⟩
            case measure => simp [intOf]; omega
          · have hltI : ¬ (j : Int) < M := by omega
            have hL0 : L = [] := List.eq_nil_of_length_eq_zero (by omega)
            subst hL0
            obtain ⟨R, hw1, hw2⟩ := hT.ex
            have ct := hw1.take
            rw [fst_nil.1, fst_nil.2, take_nil] at ct
            have W1 := hid (And.intro hw1 (And.intro hw2 hT))
            clear hw1 hw2 hR hlen hT
            go_wp2_with fail
            refine ct.mono ?_
            rintro e w4 ⟨rfl, R', c1, c2, c3⟩
            have TQ := hid (tq_of W1.out.2.2 W1.out.1 W1.out.2.1 c1 c2 c3)
            clear c1 c2 c3
            obtain ⟨R2, hv1, -⟩ := TQ.out.ex
            have cl2 := len_any w4 _ [] hv1.vw
            rw [show ((([] : List Dl).length : Nat) : Int) = 0 from rfl] at cl2
            clear hv1
            go_wp2_with fail
            refine cl2.mono ?_
            rintro e w5 ⟨rfl, hw5⟩
            have K5 := hid (show Kp w w5 [] by rw [hw5]; exact TQ.out.kp)
            clear hw5
            go_wp2
            go_ret
            exact ⟨rfl, K5.out⟩
end Go.Proofs.Ytcmmckgoiaholaa
