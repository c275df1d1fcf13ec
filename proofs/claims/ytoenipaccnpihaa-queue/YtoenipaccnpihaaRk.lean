/- The reference looks: Used, Pending, Mask; SetMask, New, Copy. -/
import Derived.Test.YtoenipaccnpihaaRm
import Derived.Test.YtoenipaccnpihaaLk
import Derived.Test.YtoenipaccnpihaaPn
namespace Go.Proofs.Ytoenipaccnpihaa
open Go.RowKit Go.Shelf Go.Sort Go.Maps
open Go.Lib hiding intOf
attribute [local go_sem] Oper.semAt_some

theorem take_all (L : El) : L.take L.length = L := List.take_of_length_le (Nat.le_refl _)
set_option maxRecDepth 100000 in
theorem rused_any (w : World) (rb : Nat) (Q : List Nat) (T S : Nat) (M : Nat → Nat) (L : El) (h : Rm w rb Q T S M L) (hl : L.length ≤ 600) : Calls Try.prog 31 #[.pointer (some ⟨rb, 0, none⟩)] w fun e w' => e = .returned (.int .i64 (used L : Nat)) ∧ w' = w := by
  obtain ⟨V, -, hc, he⟩ := h
  obtain ⟨ao, cap, rfl⟩ := he.slice
  have c0 := hc.row
  have HE := hid he
  obtain ⟨N, hN⟩ : ∃ N, L.length = N := ⟨_, rfl⟩
  rw [hN] at c0 hl HE
  have HN := hid hN
  have HL := hid hl
  clear hc he hN hl
  go_enter Try.func31, Try.ntmps31
  go_wp2
  go_loopw [3, 4] (fun vu vi wr => ∃ i : Nat, vi = .int .i64 i ∧ vu = .int .i64 (used (L.take i) : Nat) ∧ wr = w ∧ Hid (i ≤ N)) (fun _ vi _ => N - (intOf vi).toNat)
  case atStart => exact ⟨0, rfl, rfl, rfl, hid (Nat.zero_le _)⟩
  case round =>
    obtain ⟨i, rfl, rfl, rfl, hR⟩ := hrel
    by_cases hk : i < N
    · have hkI : (i : Int) < N := by omega
      have hwi : IntKind.i64.wrap ((i : Int) + 1) = (i : Int) + 1 := IntWalk.i64_in _ ⟨by omega, by have := HL.out; omega⟩
      have hiL : i < L.length := by have := HN.out; omega
      have hx : L[i]? = some L[i] := List.getElem?_eq_getElem hiL
      generalize L[i] = x at hx
      obtain ⟨g, rfl, -, c1, -⟩ := HE.out.at hx
      have hu := used_take hx
      have hub : used (L.take i) ≤ 600 := by
        have h1 : used (L.take i) ≤ (L.take i).length := List.countP_le_length
        have := HL.out
        have := HN.out
        rw [List.length_take] at h1
        omega
      by_cases h16 : 16 ≤ x.2.1
      · have h16i : (16 : Int) ≤ (x.2.1 : Int) := by omega
        rw [if_pos h16] at hu
        have HU := hid hu
        have HI := hid (show i + 1 ≤ N from hk)
        have hwr : IntKind.i64.wrap ((used (L.take i) : Int) + 1) = (used (L.take i) : Int) + 1 := IntWalk.i64_in _ ⟨by omega, by omega⟩
        generalize used (L.take i) = A at HU hwr ⊢
        clear hx hu hub hR
        go_wp2
        go_roundw
        case rel => exact ⟨i + 1, by simp, by rw [HU.out]; simp, trivial, HI⟩
        case measure => simp [intOf]; omega
      · have h16i : ¬ (16 : Int) ≤ (x.2.1 : Int) := by omega
        rw [if_neg h16, Nat.add_zero] at hu
        have HU := hid hu
        have HI := hid (show i + 1 ≤ N from hk)
        generalize used (L.take i) = A at HU ⊢
        clear hx hu hub hR
        go_wp2
        go_roundw
        case rel => exact ⟨i + 1, by simp, by rw [HU.out]; simp, trivial, HI⟩
        case measure => simp [intOf]; omega
    · have hkI : ¬ (i : Int) < N := by omega
      have e : L.take i = L := List.take_of_length_le (by have := HN.out; have := hR.out; omega)
      rw [e]
      clear hR e
      go_wp2
      go_ret
      exact ⟨rfl, rfl⟩
set_option maxRecDepth 100000 in
theorem rpending_no (w : World) (rb : Nat) (Q : List Nat) (T S : Nat) (M : Nat → Nat) (L : El) (t : Int) (h : Rm w rb Q T S M L) (ht : inT T t = false) : Calls Try.prog 33 #[.pointer (some ⟨rb, 0, none⟩), .int .i64 t] w fun e w' => e = .returned (.int .u32 0) ∧ w' = w := by
  obtain ⟨V, -, hc, he⟩ := h
  have HI := rin_any w rb T S M V t hc
  rw [ht] at HI
  have HI := hid HI
  clear hc he ht
  go_enter Try.func33, Try.ntmps33
  go_wp2
  go_loopw [5, 6] (fun vu vi wr => vi = .int .i64 0 ∧ vu = .int .u32 0 ∧ wr = w) (fun _ _ _ => 0)
  case atStart => exact ⟨rfl, rfl, rfl⟩
  case round =>
    obtain ⟨rfl, rfl, rfl⟩ := hrel
    go_wp2_with fail
    refine HI.out.mono ?_
    rintro e w1 ⟨rfl, hw⟩; obtain rfl := hw.symm
    go_wp2
    go_ret
    exact ⟨rfl, rfl⟩
set_option maxRecDepth 100000 in
set_option maxHeartbeats 1000000 in
theorem rpending_yes (w : World) (rb : Nat) (Q : List Nat) (T S : Nat) (M : Nat → Nat) (L : El) (t : Nat) (h : Rm w rb Q T S M L) (ht : t < T) (hok : Ok T S L) (hl : L.length ≤ 600) : Calls Try.prog 33 #[.pointer (some ⟨rb, 0, none⟩), .int .i64 t] w fun e w' => e = .returned (.int .u32 (pend L t : Nat)) ∧ w' = w := by
  obtain ⟨V, -, hc, he⟩ := h
  have HI := rin_any w rb T S M V t hc
  rw [inT_nat, decide_eq_true ht] at HI
  have HI := hid HI
  obtain ⟨ao, cap, rfl⟩ := he.slice
  have c0 := hc.row
  have HE := hid he
  have HB := hid (fun (n : Nat) (hn : n < 32) => rbit_any w n hn)
  have HO := hid hok
  obtain ⟨N, hN⟩ : ∃ N, L.length = N := ⟨_, rfl⟩
  rw [hN] at c0 hl HE
  have HN := hid hN
  have HL := hid hl
  clear hc he hN hl ht hok
  go_enter Try.func33, Try.ntmps33
  go_wp2
  go_loopw [5, 6] (fun vu vi wr => ∃ i : Nat, vi = .int .i64 i ∧ vu = .int .u32 (pend (L.take i) t : Nat) ∧ wr = w ∧ Hid (i ≤ N)) (fun _ vi _ => N - (intOf vi).toNat)
  case atStart => exact ⟨0, rfl, rfl, rfl, hid (Nat.zero_le _)⟩
  case round =>
    obtain ⟨i, rfl, rfl, rfl, hR⟩ := hrel
    by_cases hk : i < N
    · have hkI : (i : Int) < N := by omega
      have hwi : IntKind.i64.wrap ((i : Int) + 1) = (i : Int) + 1 := IntWalk.i64_in _ ⟨by omega, by have := HL.out; omega⟩
      have hiL : i < L.length := by have := HN.out; omega
      have hx : L[i]? = some L[i] := List.getElem?_eq_getElem hiL
      generalize L[i] = x at hx
      obtain ⟨g, rfl, c2, c1, -⟩ := HE.out.at hx
      have hu := pend_take (t := t) hx
      have hin := HO.out.inn x (List.mem_of_getElem? hx)
      have hub : pend (L.take i) t < 4294967296 := lt_two (k := 32) fun n hn => by
        rw [pend_bit]
        simp only [decide_eq_false_iff_not, Classical.not_not]
        apply Classical.byContradiction
        intro hq
        obtain ⟨y, hy, -, e2⟩ := q_ne.1 hq
        have := HO.out.inn y (List.mem_of_mem_take hy)
        omega
      have HI2 := hid (show i + 1 ≤ N from hk)
      by_cases het : x.1 = t
      · have heI : ((x.1 : Int) == (t : Int)) = true := by simp [het]
        rw [if_pos het] at hu
        have HU := hid hu
        have hb := or_bits hub (bit_lt (k := x.2.1) (by omega))
        rw [← pow_cast] at hb
        have HB2 := hid (HB.out x.2.1 (by omega))
        generalize pend (L.take i) t ||| 2 ^ x.2.1 = B at HU hb
        generalize pend (L.take i) t = A at hb ⊢
        clear hx hu hub hR hin het
        go_wp2_with fail
        refine HI.out.mono ?_
        rintro e w1 ⟨rfl, hw⟩; obtain rfl := hw.symm
        go_wp2_with fail
        refine HB2.out.mono ?_
        rintro e w1 ⟨rfl, hw⟩; obtain rfl := hw.symm
        go_wp2
        go_roundw
        case rel => exact ⟨i + 1, by simp, by rw [HU.out], trivial, HI2⟩
        case measure => simp [intOf]; omega
      · have heI : ((x.1 : Int) == (t : Int)) = false := by simp; omega
        rw [if_neg het] at hu
        have HU := hid hu
        generalize pend (L.take i) t = A at HU ⊢
        clear hx hu hub hR hin het
        go_wp2_with fail
        refine HI.out.mono ?_
        rintro e w1 ⟨rfl, hw⟩; obtain rfl := hw.symm
        go_wp2
        go_roundw
        case rel => exact ⟨i + 1, by simp, by rw [HU.out], trivial, HI2⟩
        case measure => simp [intOf]; omega
    · have hkI : ¬ (i : Int) < N := by omega
      have e : L.take i = L := List.take_of_length_le (by have := HN.out; have := hR.out; omega)
      rw [e]
      clear hR e
      go_wp2_with fail
      refine HI.out.mono ?_
      rintro e w1 ⟨rfl, hw⟩; obtain rfl := hw.symm
      go_wp2
      go_ret
      exact ⟨rfl, rfl⟩
theorem rpending_any (w : World) (rb : Nat) (Q : List Nat) (T S : Nat) (M : Nat → Nat) (L : El) (t : Int) (h : Rm w rb Q T S M L) (hok : Ok T S L) (hl : L.length ≤ 600) : Calls Try.prog 33 #[.pointer (some ⟨rb, 0, none⟩), .int .i64 t] w fun e w' => e = .returned (.int .u32 (pendingV T L t : Nat)) ∧ w' = w := by
  unfold pendingV
  cases hb : inT T t with
  | false => rw [if_neg (by simp)]; exact rpending_no w rb Q T S M L t h hb
  | true =>
    obtain ⟨k, rfl, hk⟩ := inT_yes hb
    rw [if_pos rfl]
    exact rpending_yes w rb Q T S M L k h hk hok hl
set_option maxRecDepth 100000 in
theorem rmask_any (w : World) (rb : Nat) (Q : List Nat) (T S : Nat) (M : Nat → Nat) (L : El) (t : Int) (h : Rm w rb Q T S M L) (hT : T ≤ 16) : Calls Try.prog 32 #[.pointer (some ⟨rb, 0, none⟩), .int .i64 t] w fun e w' => e = .returned (.int .u32 (maskV T M t : Nat)) ∧ w' = w := by
  unfold maskV
  obtain ⟨V, -, hc, he⟩ := h
  have HI := rin_any w rb T S M V t hc
  cases hb : inT T t with
  | false =>
    rw [hb] at HI
    have HI := hid HI
    clear hc he hb
    rw [if_neg (by simp)]
    go_enter Try.func32, Try.ntmps32
    go_wp2_with fail
    refine HI.out.mono ?_
    rintro e w1 ⟨rfl, hw⟩; obtain rfl := hw.symm
    go_wp2
    go_ret
    exact ⟨rfl, rfl⟩
  | true =>
    rw [hb] at HI
    have HI := hid HI
    obtain ⟨k, rfl, hk⟩ := inT_yes hb
    have c0 := hc.ms (t := k) (by omega)
    rw [if_pos rfl, Int.toNat_natCast]
    generalize M k = x at c0 ⊢
    clear hc he hb
    go_enter Try.func32, Try.ntmps32
    go_wp2_with fail
    refine HI.out.mono ?_
    rintro e w1 ⟨rfl, hw⟩; obtain rfl := hw.symm
    go_wp2
    go_ret
    exact ⟨rfl, rfl⟩
theorem noB_one {x : Nat} (hx : x < 4294967296) : noB x 1 = x - x % 2 := by
  apply Nat.eq_of_testBit_eq
  intro k
  rw [show (1 : Nat) = 2 ^ 0 from rfl, noB_bit hx (by omega)]
  cases k with
  | zero =>
    simp [Nat.testBit_zero]
    omega
  | succ k =>
    rw [Nat.testBit_succ, Nat.testBit_succ, show (x - x % 2) / 2 = x / 2 by omega]
    simp
set_option maxRecDepth 100000 in
theorem rsetmask_no (w : World) (rb : Nat) (Q : List Nat) (T S : Nat) (M : Nat → Nat) (L : El) (t : Int) (v : Value) (h : Rm w rb Q T S M L) (ht : inT T t = false) : Calls Try.prog 26 #[.pointer (some ⟨rb, 0, none⟩), .int .i64 t, v] w fun e w' => e = .returned (.tuple #[.int .u32 0, .int .i64 2]) ∧ w' = w := by
  obtain ⟨V, -, hc, he⟩ := h
  have HI := rin_any w rb T S M V t hc
  rw [ht] at HI
  have HI := hid HI
  clear hc he ht
  go_enter Try.func26, Try.ntmps26
  go_wp2_with fail
  refine HI.out.mono ?_
  rintro e w1 ⟨rfl, hw⟩; obtain rfl := hw.symm
  go_wp2
  go_ret2
  exact ⟨rfl, rfl⟩
set_option maxRecDepth 100000 in
theorem rsetmask_yes (w : World) (rb : Nat) (Q : List Nat) (T S : Nat) (M : Nat → Nat) (L : El) (t x : Nat) (h : Rm w rb Q T S M L) (hT : T ≤ 16) (ht : t < T) (hx : x < 4294967296) : Calls Try.prog 26 #[.pointer (some ⟨rb, 0, none⟩), .int .i64 t, .int .u32 x] w fun e w' => e = .returned (.tuple #[.int .u32 (M t : Nat), .int .i64 0]) ∧ Rst w w' rb Q T S (upd M t (noB x 1)) L := by
  obtain ⟨V, hQ, hc, he⟩ := h
  have HI := rin_any w rb T S M V t hc
  rw [inT_nat, decide_eq_true ht] at HI
  have HI := hid HI
  have c0 := hc.ms (t := t) (by omega)
  have f0 := hc.free (2 + t)
  have ht16 : t < 16 := by omega
  have ht16i : (t : Int) < 16 := by omega
  have hk := Kp.setCell w ⟨rb, 2 + t, none⟩ (.int .u32 (noB x 1 : Nat))
  have HT := hid (show Rst w (w.setCell ⟨rb, 2 + t, none⟩ (.int .u32 (noB x 1 : Nat))) rb Q T S (upd M t (noB x 1)) L from
    ⟨Q, ⟨V, hQ, hc.setM ht16 _, he.kp hk (fun g hg hm => by
      obtain ⟨-, cur, hx⟩ := owns_block he hg
      simp at hm
      subst hm
      have := hc
      unfold Rc at this
      rw [this] at hx
      simp at hx)⟩, Nw.refl _ _, hk⟩)
  have hm1 : (x : Int).tmod 2 = ((x % 2 : Nat) : Int) := by rw [Int.tmod_eq_emod_of_nonneg (by omega)]; omega
  have hm2 : (x : Int) % 2 = ((x % 2 : Nat) : Int) := by omega
  have hw1 : IntKind.u32.wrap ((x % 2 : Nat) : Int) = ((x % 2 : Nat) : Int) := wrap32 _ (by omega)
  have hw2 : IntKind.u32.wrap ((x : Int) - ((x % 2 : Nat) : Int)) = ((x - x % 2 : Nat) : Int) := by
    rw [show (x : Int) - ((x % 2 : Nat) : Int) = ((x - x % 2 : Nat) : Int) by omega]
    exact wrap32 _ (by omega)
  rw [noB_one hx] at HT ⊢
  generalize M t = y at c0 ⊢
  generalize x - x % 2 = z at hw2 HT ⊢
  generalize x % 2 = r at hm1 hm2 hw1 hw2
  clear hc he ht hk
  go_enter Try.func26, Try.ntmps26
  go_wp2_with fail
  refine HI.out.mono ?_
  rintro e w1 ⟨rfl, hw⟩; obtain rfl := hw.symm
  go_wp2
  go_ret2
  refine ⟨rfl, ?_⟩
  exact HT.out
end Go.Proofs.Ytoenipaccnpihaa
