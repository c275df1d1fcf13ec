/- All's function: the deadlines, one by one. -/
import Derived.Test.YtoaceeddcnijoaaAll
namespace Go.Proofs.Ytoaceeddcnijoaa
open Go.RowKit Go.Shelf Go.Lib Go.Sort
attribute [local go_sem] Oper.semAt_some

set_option maxRecDepth 100000 in
set_option maxHeartbeats 2000000 in
/-- K: what a round that goes on must keep: the iterator's memory. -/
theorem it_seqs (n : Nat) (hn : 1 ≤ n) (base x : Nat) (Z : List Dl) (hl : Z.length ≤ 100000) (K : World → World → Prop) (hK : ∀ (A B : World) (v : Value), K A B → Dr A base v Z → Dr B base v Z) (w : World) (h : It w base x Z) :
    Seqs n Try.prog 34 #[.pointer (some ⟨x, 0, none⟩)] (fun d : Dl => #[.int .i64 d.1, .int .i64 d.2]) K Z w := by
  intro l J Jx W hW hJ hJx hY h0
  have hi := h.keep (Kp.of_below hW)
  obtain ⟨v, hx, hd⟩ := hi.ex
  obtain ⟨ao, cap, hv⟩ := hd.slice
  obtain ⟨N, hN⟩ : ∃ N, Z.length = N := ⟨_, rfl⟩
  rw [hN] at hv hl
  subst hv
  have cx : W.cell? ⟨x, 0, none⟩ = some (.slice ao N cap) := by simp [World.cell?, hx]
  have HI := hid hi
  have HY := hid hY
  have H0 := hid h0
  have HN := hid hN
  have HJ := hid hJ
  have HD := hid hd
  clear hW hJ hJx hY h0 hi hx hd hN h
  show CallsIn Fence.wide n Try.prog 34 #[.func (.yield l) #[] #[], .pointer (some ⟨x, 0, none⟩)] W _
  refine callsIn_of_wp Try.func34 rfl trivial ?_ rfl
  simp only [Try.ntmps34, List.size_toArray, List.length_cons, List.length_nil, Nat.reduceAdd, Nat.reduceSub, Array.replicate_succ, Array.replicate_zero, List.push_toArray, List.append_toArray, List.nil_append, List.cons_append]
  gi_wp2
  gi_loopw [7] (fun v wr => ∃ i : Nat, i ≤ N ∧ v = .int .i64 i ∧ Hid (J (Z.take i) wr) ∧ Hid (Dr wr base (.slice ao N cap) Z)) (fun v _ => N - (intOf v).toNat)
  case atStart => exact ⟨0, by omega, rfl, hid (by simpa using H0.out), HD⟩
  case round =>
    obtain ⟨i, hi, rfl, hJs, hDs⟩ := hrel
    by_cases hlt : i < N
    · have hltI : (i : Int) < N := by omega
      have hil : i < Z.length := by have := HN.out; omega
      obtain ⟨x1, x2, hx⟩ : ∃ x1 x2, Z[i]! = (x1, x2) := ⟨Z[i]!.1, Z[i]!.2, rfl⟩
      obtain ⟨gg, rfl, c1, c2, -, -⟩ := hDs.out.at hil hx
      have hlg : gg < wr.heap.size := World.block_lt_of_cell? wr _ c1
      have ht : Z.take (i + 1) = Z.take i ++ [(x1, x2)] := by rw [take_get hil, hx]
      have HT := hid ht
      have ka := hid (Kp.alloc wr (.cells #[.int .i64 x1, .int .i64 x2] 69) [])
      have hpx : Z.take i ++ [(x1, x2)] <+: Z := by rw [← ht]; exact List.take_prefix _ _
      obtain ⟨fn, tmps, assign, body, hy, hRR⟩ := HY.out (Z.take i) (x1, x2) (wr.alloc (.cells #[.int .i64 x1, .int .i64 x2] 69)) (HJ.out.alloc _ hJs.out) hpx
      have HRR := hid hRR
      have HPX := hid hpx
      clear hRR hpx hx ht
      gi_wp2
      refine HRR.out.mono ?_
      rintro e W3 ⟨-, (⟨rfl, hJ3, hk3⟩ | ⟨rfl, hJx3⟩)⟩
      · have J3 := hid (show J (Z.take (i + 1)) W3 by rw [HT.out]; exact hJ3)
        have D3 := hid (hK _ _ _ hk3 (hDs.out.keep ka.out))
        clear hJ3 hk3
        gi_wp2
        go_roundw
        case rel => exact ⟨i + 1, by omega, by simp, J3, D3⟩
        case measure => simp [intOf]; omega
      · have JX := hid hJx3
        clear hJx3
        gi_wp2
        refine bodyPost_ret (results_none rfl _ _ _) rfl ?_
        exact ⟨⟨_, rfl⟩, .inr ⟨_, HPX.out, JX.out⟩⟩
    · have hltI : ¬ (i : Int) < N := by omega
      have HE := hid (show J Z wr by
        have := hJs.out
        rw [List.take_of_length_le (by have := HN.out; omega)] at this
        exact this)
      gi_wp2
      go_end0
      exact ⟨⟨_, rfl⟩, .inl HE.out⟩
end Go.Proofs.Ytoaceeddcnijoaa
