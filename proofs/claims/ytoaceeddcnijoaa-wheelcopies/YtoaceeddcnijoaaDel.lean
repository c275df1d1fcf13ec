/- What is asked of deadlines; IndexFunc, ContainsFunc, DeleteFunc. -/
import Derived.Test.YtoaceeddcnijoaaCat
namespace Go.Proofs.Ytoaceeddcnijoaa
open Go.RowKit Go.Shelf Go.Lib Go.Sort

/-- A function that asks p of a deadline; what it has captured stands in block cb. -/
structure Prd (g cb : Nat) (c : Int) (p : Dl → Bool) : Prop where
  call : ∀ (W : World) (x1 x2 : Int), W.cell? ⟨cb, 0, none⟩ = some (.int .i64 c) → Calls Try.prog g #[.agg #[.int .i64 x1, .int .i64 x2], .pointer (some ⟨cb, 0, none⟩)] W fun e w' => e = .returned (.bool (p (x1, x2))) ∧ Kp W w' []
  ent : ∀ args w, (callFunc g args).run Try.prog w = .ok (.enter g args) w
abbrev pv (g cb : Nat) : Value := .func (.func g) #[] #[.pointer (some ⟨cb, 0, none⟩)]
set_option maxRecDepth 100000 in
theorem prd_of (cb : Nat) (c : Int) : Prd 38 cb c (fun x => x.1 == c) where
  call W x1 x2 h := by
    go_enter Try.func38, Try.ntmps38
    have hlt := World.block_lt_of_cell? W _ h
    have hne : cb ≠ W.heap.size := by have : cb < W.heap.size := hlt; omega
    go_wp2
    go_ret
    exact ⟨rfl, Kp.alloc _ _ _⟩
  ent := enters_of Try.func38 (by kernel_rfl) rfl
set_option maxRecDepth 100000 in
theorem prd_due (cb : Nat) (c : Int) : Prd 30 cb c (fun x => decide (x.2 ≤ c)) where
  call W x1 x2 h := by
    go_enter Try.func30, Try.ntmps30
    have hlt := World.block_lt_of_cell? W _ h
    have hne : cb ≠ W.heap.size := by have : cb < W.heap.size := hlt; omega
    go_wp2
    go_ret
    exact ⟨rfl, Kp.alloc _ _ _⟩
  ent := enters_of Try.func30 (by kernel_rfl) rfl
theorem Dr.at {w : World} {base : Nat} {ao : Option Addr} {m cap : Nat} {l : List Dl} (h : Dr w base (.slice ao m cap) l) {k : Nat} (hk : k < l.length) {x1 x2 : Int} (e : l[k]! = (x1, x2)) :
    ∃ g, ao = some ⟨g, 0, none⟩ ∧ w.cell? ⟨g, k * 2, none⟩ = some (.int .i64 x1) ∧ w.cell? ⟨g, k * 2 + 1, none⟩ = some (.int .i64 x2) ∧ w.frozen? ⟨g, k * 2, none⟩ = false ∧ w.frozen? ⟨g, k * 2 + 1, none⟩ = false := by
  cases ao with
  | none => obtain ⟨rfl, -⟩ := h.none_of; simp at hk
  | some ad =>
    obtain ⟨g, rfl⟩ := h.some_of
    have := h.hk.1.cells hk
    rw [e] at this
    exact ⟨g, rfl, this⟩

/-- What IndexFunc tells. -/
def Idx (l : List Dl) (p : Dl → Bool) (r : Int) : Prop := (r = -1 ∧ l.any p = false) ∨ ∃ i : Nat, r = i ∧ i < l.length ∧ p l[i]! = true ∧ ∀ x ∈ l.take i, p x = false

set_option maxRecDepth 100000 in
set_option maxHeartbeats 2000000 in
theorem idx_any (w : World) (base : Nat) (v : Value) (l : List Dl) (g cb : Nat) (c : Int) (p : Dl → Bool) (h : Dr w base v l) (hp : Prd g cb c p) (hc : w.cell? ⟨cb, 0, none⟩ = some (.int .i64 c)) (hl : l.length ≤ 100000) :
    Calls Try.prog 40 #[v, pv g cb] w fun e w' => (∃ r : Int, e = .returned (.int .i64 r) ∧ Idx l p r) ∧ Kp w w' [] := by
  obtain ⟨ao, cap, rfl⟩ := h.slice
  obtain ⟨N, hN⟩ : ∃ N, l.length = N := ⟨_, rfl⟩
  have H := hid h
  have HN := hid hN
  have HP := hid hp
  have HC := hid hc
  have eg := hp.ent
  rw [hN] at hl ⊢
  clear h hN hp hc
  go_enter Try.func40, Try.ntmps40
  go_wp2_with fail
  go_loopw [8] (fun vi wr => ∃ k : Nat, k ≤ N ∧ vi = .int .i64 k ∧ Hid ((∀ x ∈ l.take k, p x = false) ∧ Kp w wr [])) (fun vi _ => N - (intOf vi).toNat)
  case atStart => exact ⟨0, Nat.zero_le _, rfl, by simp, Kp.refl _ _⟩
  case round =>
    obtain ⟨k, hk, rfl, hR⟩ := hrel
    by_cases hlt : k < N
    · have hltI : (k : Int) < N := by omega
      have hkl : k < l.length := by have := HN.out; omega
      obtain ⟨x1, x2, hx⟩ : ∃ x1 x2, l[k]! = (x1, x2) := ⟨l[k]!.1, l[k]!.2, rfl⟩
      obtain ⟨gb, rfl, c1, c2, -, -⟩ := (H.out.keep hR.out.2).at hkl hx
      have HX := hid hx
      cases hpx : p (x1, x2) with
      | true =>
        have HPX := hid hpx
        clear hx hpx
        go_wp2_with fail
        refine (HP.out.call wr x1 x2 (hR.out.2.cell HC.out (by simp))).mono ?_
        rintro e w2 ⟨rfl, k2⟩
        rw [HPX.out]
        have K2 := hid (hR.out.2.trans k2)
        clear k2
        go_wp2
        go_ret
        exact ⟨⟨(k : Int), rfl, .inr ⟨k, rfl, by have := HN.out; omega, by rw [HX.out]; exact HPX.out, hR.out.1⟩⟩, K2.out⟩
      | false =>
        have HPX := hid hpx
        clear hx hpx
        go_wp2_with fail
        refine (HP.out.call wr x1 x2 (hR.out.2.cell HC.out (by simp))).mono ?_
        rintro e w2 ⟨rfl, k2⟩
        rw [HPX.out]
        have K2 := hid (show (∀ x ∈ l.take (k + 1), p x = false) ∧ Kp w w2 [] by
          refine ⟨fun x hx => ?_, hR.out.2.trans k2⟩
          rw [take_get hkl, HX.out] at hx
          rcases List.mem_append.1 hx with q | q
          · exact hR.out.1 x q
          · rw [List.mem_singleton.1 q]; exact HPX.out)
        clear k2
        go_wp2
        go_roundw
        case rel => exact ⟨k + 1, by omega, by simp, K2⟩
        case measure => simp [intOf]; omega
    · have hltI : ¬ (k : Int) < N := by omega
      have HF := hid (show l.any p = false by
        have := hR.out.1
        rw [List.take_of_length_le (by have := HN.out; omega)] at this
        rw [List.any_eq_false]
        intro x hx
        rw [this x hx]; simp)
      go_wp2
      go_ret
      exact ⟨⟨-1, rfl, .inl ⟨rfl, HF.out⟩⟩, hR.out.2⟩
set_option maxRecDepth 100000 in
theorem has_any (w : World) (base : Nat) (v : Value) (l : List Dl) (g cb : Nat) (c : Int) (p : Dl → Bool) (h : Dr w base v l) (hp : Prd g cb c p) (hc : w.cell? ⟨cb, 0, none⟩ = some (.int .i64 c)) (hl : l.length ≤ 100000) :
    Calls Try.prog 35 #[v, pv g cb] w fun e w' => e = .returned (.bool (l.any p)) ∧ Kp w w' [] := by
  have ci := idx_any w base v l g cb c p h hp hc hl
  obtain ⟨ao, cap, rfl⟩ := h.slice
  have HI := hid ci
  obtain ⟨N, hN⟩ : ∃ N, l.length = N := ⟨_, rfl⟩
  rw [hN] at HI ⊢
  obtain ⟨B, hB⟩ : ∃ B, l.any p = B := ⟨_, rfl⟩
  rw [hB]
  have HB := hid hB
  clear h hp hc ci hN hB
  go_enter Try.func35, Try.ntmps35
  go_wp2_with fail
  refine HI.out.mono ?_
  rintro e w2 ⟨⟨r, rfl, hr⟩, hK⟩
  have HK := hid hK
  rcases hr with ⟨rfl, ha⟩ | ⟨i, rfl, hi, hpi, -⟩
  · have hb := HB.out
    rw [ha] at hb
    subst hb
    clear hK ha
    go_wp2
    go_ret
    exact ⟨rfl, HK.out⟩
  · have ha : l.any p = true := by
      rw [List.any_eq_true]
      exact ⟨l[i]!, by rw [getElem!_pos l i hi]; exact List.getElem_mem hi, hpi⟩
    have hb := HB.out
    rw [ha] at hb
    subst hb
    clear hK ha hi hpi
    have hi0 : (0 : Int) ≤ (i : Int) := by omega
    go_wp2
    go_ret
    exact ⟨rfl, HK.out⟩
end Go.Proofs.Ytoaceeddcnijoaa
