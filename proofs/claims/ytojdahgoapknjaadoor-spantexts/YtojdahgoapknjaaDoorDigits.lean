/- digits: the digits of a text, one by one. -/
import Derived.Test.YtojdahgoapknjaaDoorRange
import Derived.Deep.RegionHeldLaw
import Derived.Shelf.RegionOpen
namespace Go.Proofs.YtojdahgoapknjaaDoor
open Go.RowKit Go.Shelf
set_option linter.unusedVariables false
attribute [local go_sem] Oper.semAt_some

/-- A byte as a digit; what is none is -1. -/
def dig (c : Nat) : Int := if 48 ≤ c ∧ c ≤ 57 then (c : Int) - 48 else -1
def ds (l : List UInt8) : List Int := l.map fun c => dig c.toNat
theorem ds_take {l : List UInt8} {i : Nat} (h : i < l.length) : (ds l).take (i + 1) = (ds l).take i ++ [dig l[i].toNat] := by
  unfold ds
  rw [List.take_add_one, List.getElem?_map, List.getElem?_eq_getElem h]
  rfl
theorem cell_one1 {w : World} {b : Nat} {v : Value} {t : TypeId} (h : w.heap[b]? = some (.cells #[v] t (0, 0))) : w.cell? ⟨b, 0, none⟩ = some v := by simp [World.cell?, h]

set_option maxRecDepth 100000 in
set_option maxHeartbeats 2000000 in
theorem digits_seqs (n : Nat) (hn : 1 ≤ n) (l : List UInt8) (hl : l.length < 1000000) (x : Nat) (K : World → World → Prop) (hKx : ∀ (A B : World), K A B → ∀ (c : Array Value), A.heap[x]? = some (.cells c 9 (0, 0)) → B.heap[x]? = some (.cells c 9 (0, 0))) (w : World)
    (hx : w.heap[x]? = some (.cells #[.string ⟨l.toArray⟩] 9 (0, 0))) :
    Seqs n Tryd.prog 38 #[.pointer (some ⟨x, 0, none⟩)] (fun d : Int => #[.int .i64 d]) K (ds l) w := by
  intro lp J Jx W hW hJ hJx hY h0
  have hk := Kp.of_below hW
  have hx' := (hk.block x (lt_of_block hx) (by simp)).trans hx
  have cx := cell_one1 hx'
  have HX := hid hx'
  have HY := hid hY
  have H0 := hid h0
  clear hW hJ hJx hY h0 hx hk hx'
  show CallsIn Fence.wide n Tryd.prog 38 #[.func (.yield lp) #[] #[], .pointer (some ⟨x, 0, none⟩)] W _
  refine callsIn_of_wp Tryd.func38 rfl trivial ?_ rfl
  simp only [Tryd.ntmps38, List.size_toArray, List.length_cons, List.length_nil, Nat.reduceAdd, Nat.reduceSub, Array.replicate_succ, Array.replicate_zero, List.push_toArray, List.append_toArray, List.nil_append, List.cons_append]
  gi_wp2
  gi_loopw [7] (fun v wr => ∃ i : Nat, i ≤ l.length ∧ v = .int .i64 i ∧ Hid (J ((ds l).take i) wr) ∧ Hid (wr.heap[x]? = some (.cells #[.string ⟨l.toArray⟩] 9 (0, 0)))) (fun v _ => l.length - (intOf v).toNat)
  case atStart => exact ⟨0, Nat.zero_le _, rfl, H0, HX⟩
  case round =>
    obtain ⟨i, hi, rfl, hJs, hXs⟩ := hrel
    have cx := cell_one1 hXs.out
    by_cases hlt : i < l.length
    · have hltI : (i : Int) < (l.length : Int) := by omega
      have hsz : i < (⟨l.toArray⟩ : ByteArray).size := by show i < l.toArray.size; simpa using hlt
      have HT := hid (ds_take hlt)
      have hpx : (ds l).take i ++ [dig l[i].toNat] <+: ds l := by rw [← ds_take hlt]; exact List.take_prefix _ _
      obtain ⟨fn, tmps, assign, body, hy, hRR⟩ := HY.out _ (dig l[i].toNat) wr hJs.out hpx
      have HRR := hid hRR
      obtain ⟨c, hc⟩ : ∃ c : Nat, ((⟨l.toArray⟩ : ByteArray)[i]'hsz).toNat = c := ⟨_, rfl⟩
      have hc' : l[i].toNat = c := hc
      have hc8 : c < 256 := by rw [← hc']; exact l[i].toNat_lt
      rw [hc'] at HT HRR hy
      clear hRR hpx hc'
      have HP := hid (show (ds l).take i ++ [dig c] <+: ds l by rw [← HT.out]; exact List.take_prefix _ _)
      rcases (show c < 48 ∨ 57 < c ∨ (48 ≤ c ∧ c ≤ 57) by omega) with h1 | h1 | h1
      · have e : dig c = -1 := by unfold dig; rw [if_neg (by omega)]
        have g1 : (c : Int) < 48 := by omega
        have g2 : (c : Int) - 48 < 0 := by omega
        have g3 : decide ((c : Int) - 48 < 0) = true := by simp; omega
        rw [e] at HT HRR hy HP
        clear e
        gi_wp2
        refine HRR.out.mono ?_
        rintro e W3 ⟨-, (⟨rfl, hJ3, hk3⟩ | ⟨rfl, hJx3⟩)⟩
        · have J3 := hid hJ3
          have X3 := hid (hKx _ _ hk3 _ hXs.out)
          clear hJ3 hk3
          gi_wp2
          go_roundw
          case rel => exact ⟨i + 1, by omega, by simp, hid (by rw [HT.out]; exact J3.out), X3⟩
          case measure => simp [intOf]; omega
        · have JX := hid hJx3
          clear hJx3
          gi_wp2
          refine bodyPost_ret (results_none rfl _ _ _) rfl ?_
          exact ⟨⟨_, rfl⟩, .inr ⟨_, HP.out, JX.out⟩⟩
      · have e : dig c = -1 := by unfold dig; rw [if_neg (by omega)]
        have g1 : ¬ (c : Int) < 48 := by omega
        have g2 : ¬ (c : Int) - 48 < 0 := by omega
        have g3 : decide ((c : Int) - 48 < 0) = false := by simp; omega
        have g4 : (9 : Int) < (c : Int) - 48 := by omega
        rw [e] at HT HRR hy HP
        clear e
        gi_wp2
        refine HRR.out.mono ?_
        rintro e W3 ⟨-, (⟨rfl, hJ3, hk3⟩ | ⟨rfl, hJx3⟩)⟩
        · have J3 := hid hJ3
          have X3 := hid (hKx _ _ hk3 _ hXs.out)
          clear hJ3 hk3
          gi_wp2
          go_roundw
          case rel => exact ⟨i + 1, by omega, by simp, hid (by rw [HT.out]; exact J3.out), X3⟩
          case measure => simp [intOf]; omega
        · have JX := hid hJx3
          clear hJx3
          gi_wp2
          refine bodyPost_ret (results_none rfl _ _ _) rfl ?_
          exact ⟨⟨_, rfl⟩, .inr ⟨_, HP.out, JX.out⟩⟩
      · have e : dig c = (c : Int) - 48 := by unfold dig; rw [if_pos h1]
        have g1 : ¬ (c : Int) < 48 := by omega
        have g2 : ¬ (c : Int) - 48 < 0 := by omega
        have g3 : decide ((c : Int) - 48 < 0) = false := by simp; omega
        have g4 : ¬ (9 : Int) < (c : Int) - 48 := by omega
        rw [e] at HT HRR hy HP
        clear e
        gi_wp2
        refine HRR.out.mono ?_
        rintro e W3 ⟨-, (⟨rfl, hJ3, hk3⟩ | ⟨rfl, hJx3⟩)⟩
        · have J3 := hid hJ3
          have X3 := hid (hKx _ _ hk3 _ hXs.out)
          clear hJ3 hk3
          gi_wp2
          go_roundw
          case rel => exact ⟨i + 1, by omega, by simp, hid (by rw [HT.out]; exact J3.out), X3⟩
          case measure => simp [intOf]; omega
        · have JX := hid hJx3
          clear hJx3
          gi_wp2
          refine bodyPost_ret (results_none rfl _ _ _) rfl ?_
          exact ⟨⟨_, rfl⟩, .inr ⟨_, HP.out, JX.out⟩⟩
    · have hie : i = l.length := by omega
      have hltI : ¬ (i : Int) < (l.length : Int) := by omega
      have HI := hid (show J (ds l) wr by have := hJs.out; rwa [hie, List.take_of_length_le (by unfold ds; simp)] at this)
      clear hie
      gi_wp2
      go_end0
      exact ⟨⟨_, rfl⟩, .inl HI.out⟩
end Go.Proofs.YtojdahgoapknjaaDoor
