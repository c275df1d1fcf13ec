/- All, and its function. -/
import Derived.LoopIn
import Derived.Test.YtjggpchjfglgcaaCp
import Derived.Test.YtjggpchjfglgcaaRange
namespace Go.Proofs.Ytjggpchjfglgcaa
open Go.RowKit Go.Shelf Go.Lib
attribute [local go_sem] Oper.semAt_some

/-- What a round keeps: copies of the cleanups that lie from a block on. -/
structure KcS (D : Nat) (W W' : World) : Prop where
  size : W.heap.size ≤ W'.heap.size
  same : ∀ k c f, D ≤ k → W.heap[k]? = some (.cells c 57 f) → W'.heap[k]? = some (.cells c 57 f)
theorem KcS.refl (D : Nat) (W : World) : KcS D W W := ⟨Nat.le_refl _, fun _ _ _ _ h => h⟩
theorem KcS.trans {D : Nat} {A B C : World} (h : KcS D A B) (h' : KcS D B C) : KcS D A C := ⟨Nat.le_trans h.size h'.size, fun k c f hk ha => h'.same k c f hk (h.same k c f hk ha)⟩
theorem KcS.of_kp {D : Nat} {A B : World} {rows : List Nat} (h : Kp A B rows) (hr : ∀ k ∈ rows, ∀ c f, A.heap[k]? ≠ some (.cells c 57 f)) : KcS D A B :=
  ⟨h.size, fun k c f _ ha => (h.block k (lt_of_block ha) (fun hm => hr k hm c f ha)).trans ha⟩
theorem kcS_alloc (D : Nat) (W : World) (o : Obj) : KcS D W (W.alloc o) := ⟨by simp, fun k c f _ h => (Below.heap_alloc _ _ _ (lt_of_block h)).trans h⟩
theorem kcS_put (D : Nat) (W : World) (l : Nat) (o o' : Obj) (h : W.heap[l]? = some o) (hc : o.isCells = false) : KcS D W (W.putObj l o') := by
  refine ⟨by simp [World.putObj], fun k c f _ hk => ?_⟩
  have hne : k ≠ l := by
    rintro rfl
    rw [h] at hk
    cases hk
    simp [Obj.isCells] at hc
  exact (World.putObj_heap_other hne).trans hk
theorem take_nx {α : Type} {l : List α} {i : Nat} {x : α} (h : l[i]? = some x) : l.take (i + 1) = l.take i ++ [x] := by
  rw [List.take_add_one, h]
  rfl
abbrev itc (x : Nat) : Value := .func (.func 44) #[] #[.pointer (some ⟨x, 0, none⟩)]
set_option maxRecDepth 100000 in
theorem all_any (w : World) (p : Option Addr) : Calls Try.prog 33 #[.pointer p] w fun e w' => e = .returned (itc w.heap.size) ∧ w' = w.alloc (.cells #[.pointer p] 23) := by
  go_enter Try.func33, Try.ntmps33
  go_wp2
  go_ret
  exact ⟨rfl, rfl⟩
/-- An iterator: what it has caught, and what that shows. -/
structure Itc (w : World) (x : Nat) (Z : Ml) : Prop where
  ex : ∃ p M z, w.heap[x]? = some (.cells #[.pointer p] 23 (0, 0)) ∧ Cv w p M z ∧ M.L.length ≤ 8 ∧ M.L.reverse = Z
theorem Itc.keep {w w' : World} {x : Nat} {Z : Ml} (h : Itc w x Z) (hk : Kp w w' []) : Itc w' x Z := by
  obtain ⟨p, M, z, h1, h2, h3, h4⟩ := h.ex
  exact ⟨p, M, z, (hk.block x (lt_of_block h1) (by simp)).trans h1, h2.keep hk, h3, h4⟩
theorem Itc.lt {w : World} {x : Nat} {Z : Ml} (h : Itc w x Z) : x < w.heap.size := by
  obtain ⟨p, M, z, h1, -⟩ := h.ex
  exact lt_of_block h1
theorem Itc.new {w : World} {p : Option Addr} {M : Cn} {z : Bool} (h : Cv w p M z) (hl : M.L.length ≤ 8) : Itc (w.alloc (.cells #[.pointer p] 23)) w.heap.size M.L.reverse := ⟨p, M, z, heap_alloc_new w _, h.keep (Kp.alloc _ _ _), hl, rfl⟩
abbrev encV (d : Int × Int) : Array Value := #[.agg #[.int .i64 d.1, .int .i64 d.2]]
theorem stA_at (M : Cn) : ∀ k, k < 8 → (stA M)[1 + k * 2]? = some (.int .i64 (atL M.L k).1) ∧ (stA M)[1 + k * 2 + 1]? = some (.int .i64 (atL M.L k).2) := by
  intro k hk
  rcases (show k = 0 ∨ k = 1 ∨ k = 2 ∨ k = 3 ∨ k = 4 ∨ k = 5 ∨ k = 6 ∨ k = 7 by omega) with rfl | rfl | rfl | rfl | rfl | rfl | rfl | rfl <;> exact ⟨rfl, rfl⟩
set_option maxRecDepth 100000 in
set_option maxHeartbeats 2000000 in
/-- All's function: the cleanups as they are when it begins, the one on top first. -/
theorem itc_seqs (n : Nat) (hn : 1 ≤ n) (x : Nat) (Z : Ml) (w : World) (h : Itc w x Z) :
    Seqs n Try.prog 44 #[.pointer (some ⟨x, 0, none⟩)] encV (KcS w.heap.size) Z w := by
  intro l J Jx W hW hJ hJx hY h0
  have hsz := hW.size
  obtain ⟨p, M, z, hx, hv, hl8, hZ⟩ := (h.keep (Kp.of_below hW)).ex
  have cx : W.cell? ⟨x, 0, none⟩ = some (.pointer p) := by simp [World.cell?, hx]
  have cB := (callsIn_wide (n := n - 1)).2 (cleanups_any hv)
  have HY := hid hY
  have H0 := hid h0
  have HJ := hid hJ
  have hf1 : Fence.wide.fn 34 := trivial
  obtain ⟨N, hN⟩ : ∃ N, M.L.length = N := ⟨_, rfl⟩
  have hAT := fun k hk => stA_at M k hk
  have hq := fld57 M
  rw [hN] at hl8
  have HSt := hid hAT
  have HX := hid (show ∀ i, i < N → Z[i]? = some (atL M.L (N - 1 - i)) from fun i hi => by
    rw [← hZ, List.getElem?_reverse (by omega), hN]
    unfold atL
    rw [List.getElem?_eq_getElem (by omega)]
    rfl)
  have HZl := hid (show Z.length = N by rw [← hZ, List.length_reverse, hN])
  have hE : stA M = #[.int .i64 (N : Nat), .int .i64 (atL M.L 0).1, .int .i64 (atL M.L 0).2, .int .i64 (atL M.L 1).1, .int .i64 (atL M.L 1).2, .int .i64 (atL M.L 2).1, .int .i64 (atL M.L 2).2, .int .i64 (atL M.L 3).1, .int .i64 (atL M.L 3).2, .int .i64 (atL M.L 4).1, .int .i64 (atL M.L 4).2, .int .i64 (atL M.L 5).1, .int .i64 (atL M.L 5).2, .int .i64 (atL M.L 6).1, .int .i64 (atL M.L 6).2, .int .i64 (atL M.L 7).1, .int .i64 (atL M.L 7).2] := by rw [← hN]; rfl
  clear hW hJ hJx hY h0 hx hv h hZ hAT hq hN
  show CallsIn Fence.wide n Try.prog 44 #[.func (.yield l) #[] #[], .pointer (some ⟨x, 0, none⟩)] W _
  refine callsIn_of_wp Try.func44 rfl trivial ?_ rfl
  simp only [Try.ntmps44, List.size_toArray, List.length_cons, List.length_nil, Nat.reduceAdd, Nat.reduceSub, Array.replicate_succ, Array.replicate_zero, List.push_toArray, List.append_toArray, List.nil_append, List.cons_append]
  have hwN : IntKind.i64.wrap ((N : Int) - 1) = (N : Int) - 1 := IntWalk.i64_in _ ⟨by omega, by omega⟩
  gi_wp2_with (gi_at_call 34; refine cB.mono ?_; rintro e w1 ⟨rfl, hk⟩; have HK := hid hk; have HJ1 := hid (show J [] w1 from HJ.out [] W w1 none H0.out ⟨hk.os, hk.tape, hk.output, hk.size, fun k hk' _ => hk.block k hk' (by simp)⟩ (fun r hr => by cases hr)); have HSZ := hid hk.size; clear hk; rw [hE])
  rw [← hE]
  have HL0 := hid (heap_alloc_new w1 (.cells (stA M) 57))
  have HJ2 := hid (HJ.out.alloc (.cells (stA M) 57) HJ1.out)
  have HLB := hid (show w.heap.size ≤ w1.heap.size by have := HSZ.out; omega)
  clear HJ1 hE HK HSZ
  generalize w1.alloc (.cells (stA M) 57) = W2 at HL0 HJ2 ⊢
  generalize w1.heap.size = lb at HL0 HLB ⊢
  gi_loopw [4] (fun v wr => ∃ i : Nat, i ≤ N ∧ v = .int .i64 ((N : Int) - 1 - (i : Nat)) ∧ Hid (J (Z.take i) wr) ∧ Hid (wr.heap[lb]? = some (.cells (stA M) 57 (0, 0)))) (fun v _ => (Go.RowKit.intOf v + 1).toNat)
  case atStart => exact ⟨0, by omega, by simp, hid (by simpa using HJ2.out), HL0⟩
  case round =>
    obtain ⟨i, hi, rfl, hJs, hLs⟩ := hrel
    by_cases hlt : i < N
    · obtain ⟨k, hk⟩ : ∃ k, N - 1 - i = k := ⟨_, rfl⟩
      have e : (N : Int) - 1 - (i : Nat) = (k : Nat) := by omega
      have hk8 : k < 8 := by omega
      have hkI : (k : Int) < 8 := by omega
      have hx0 := HX.out i hlt
      rw [hk] at hx0
      obtain ⟨x1, x2, hx⟩ : ∃ x1 x2, atL M.L k = (x1, x2) := ⟨(atL M.L k).1, (atL M.L k).2, rfl⟩
      have hA := HSt.out k hk8
      rw [hx] at hx0 hA
      have c1 : wr.cell? ⟨lb, 1 + k * 2, none⟩ = some (.int .i64 x1) := by simp [World.cell?, hLs.out, hA.1]
      have c2 : wr.cell? ⟨lb, 1 + k * 2 + 1, none⟩ = some (.int .i64 x2) := by simp [World.cell?, hLs.out, hA.2]
      have hwk : IntKind.i64.wrap ((k : Int) - 1) = (k : Int) - 1 := IntWalk.i64_in _ ⟨by omega, by omega⟩
      have ht := take_nx hx0
      have HT := hid ht
      have hpx : Z.take i ++ [(x1, x2)] <+: Z := by rw [← ht]; exact List.take_prefix _ _
      obtain ⟨fn, tmps, assign, body, hy, hRR⟩ := HY.out (Z.take i) (x1, x2) wr hJs.out hpx
      have hy : (Instr.yield l #[.agg #[.int .i64 x1, .int .i64 x2]]).run Try.prog wr = .ok (.round l fn tmps assign body) wr := hy
      have HRR := hid hRR
      have HPX := hid hpx
      have HE := hid e
      rw [e]
      clear hRR hpx hx hx0 ht hA e
      gi_wp2
      refine HRR.out.mono ?_
      rintro e W3 ⟨-, (⟨rfl, hJ3, hk3⟩ | ⟨rfl, hJx3⟩)⟩
      · have J3 := hid (show J (Z.take (i + 1)) W3 by rw [HT.out]; exact hJ3)
        have D3 := hid (hk3.same lb _ _ HLB.out hLs.out)
        clear hJ3 hk3
        gi_wp2
        go_roundw
        case rel => exact ⟨i + 1, by omega, congrArg (Value.int .i64) (by have := HE.out; omega), J3, D3⟩
        case measure => simp [Go.RowKit.intOf]
      · have JX := hid hJx3
        clear hJx3
        gi_wp2
        refine bodyPost_ret (results_none rfl _ _ _) rfl ?_
        exact ⟨⟨_, rfl⟩, .inr ⟨_, HPX.out, JX.out⟩⟩
    · have e : (N : Int) - 1 - (i : Nat) = -1 := by omega
      have HE := hid (show J Z wr by
        have := hJs.out
        rw [List.take_of_length_le (by have := HZl.out; omega)] at this
        exact this)
      rw [e]
      clear e
      gi_wp2
      go_end0
      exact ⟨⟨_, rfl⟩, .inl HE.out⟩
end Go.Proofs.Ytjggpchjfglgcaa
