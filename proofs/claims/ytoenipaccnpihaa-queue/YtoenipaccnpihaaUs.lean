/- How many slots are used: a range over the map. -/
import Derived.Maps.RangeWalk
import Derived.Test.YtoenipaccnpihaaLk
namespace Go.Proofs.Ytoenipaccnpihaa
open Go.RowKit Go.Shelf Go.Lib Go.Sort Go.Maps
attribute [local go_sem] Oper.semAt_some

theorem sum_upd {f f' : Nat × Nat → Nat} {k0 : Nat × Nat} {c : Nat} : ∀ {l : List (Nat × Nat)}, l.Nodup → k0 ∈ l → (∀ k ∈ l, k ≠ k0 → f' k = f k) → f' k0 = f k0 + c → (l.map f').sum = (l.map f).sum + c
  | [], _, hm, _, _ => by simp at hm
  | k :: l, hn, hm, ho, h0 => by
    obtain ⟨h1, h2⟩ := List.nodup_cons.1 hn
    simp only [List.map_cons, List.sum_cons]
    by_cases e : k = k0
    · subst e
      rw [h0, List.map_congr_left (f := f') (g := f) (fun j hj => ho j (by simp [hj]) (fun e => h1 (e ▸ hj)))]
      omega
    · have hm' : k0 ∈ l := by
        rcases List.mem_cons.1 hm with e' | h
        · exact (e e'.symm).elim
        · exact h
      rw [ho k (by simp) e, sum_upd h2 hm' (fun j hj hne => ho j (by simp [hj]) hne) h0]
      omega
theorem sum_zero {f : Nat × Nat → Nat} : ∀ {l : List (Nat × Nat)}, (∀ k ∈ l, f k = 0) → (l.map f).sum = 0
  | [], _ => rfl
  | k :: l, h => by
    simp only [List.map_cons, List.sum_cons]
    rw [h k (by simp), sum_zero (fun j hj => h j (by simp [hj]))]
/-- How many queue of one number. -/
def lenQ (L : El) (k : Nat × Nat) : Nat := if 16 ≤ k.2 then (q L k.1 k.2).length else 0
theorem used_sum : ∀ (L : El), (∀ x ∈ L, x.1 < 16 ∧ x.2.1 < 32) → used L = (ks.map (lenQ L)).sum
  | [], _ => by
    rw [sum_zero]
    · rfl
    · intro k _
      simp [lenQ, q_nil]
  | x :: L, h => by
    have ih := used_sum L (fun y hy => h y (by simp [hy]))
    have hx := h x (by simp)
    rw [sum_upd (f := lenQ L) (f' := lenQ (x :: L)) (k0 := (x.1, x.2.1)) (c := if 16 ≤ x.2.1 then 1 else 0) nodup_ks (mem_ks.2 hx), ← ih]
    · unfold used
      rw [List.countP_cons]
      simp
    · intro k _ hne
      unfold lenQ
      rw [q_cons, if_neg (fun (e : x.1 = k.1 ∧ x.2.1 = k.2) => hne (Prod.ext e.1.symm e.2.symm))]
    · unfold lenQ
      simp only [q_cons, and_self, if_true]
      split <;> simp
/-- How many of those have been seen. -/
noncomputable def seen (L : El) (left : Lit → Bool) : Nat := (ks.map fun k => if left (kl k.1 k.2) then 0 else lenQ L k).sum
theorem seen_step {L : El} {left : Lit → Bool} {t n : Nat} (ht : t < 16) (hn : n < 32) (hl : left (kl t n) = true) : seen L (fun z => left z && !z.sameKey (kl t n)) = seen L left + lenQ L (t, n) := by
  unfold seen
  refine sum_upd (k0 := (t, n)) nodup_ks (mem_ks.2 ⟨ht, hn⟩) (fun k hk hne => ?_) ?_
  · have hk' := mem_ks.1 hk
    show (if (left (kl k.1 k.2) && !(kl k.1 k.2).sameKey (kl t n)) = true then 0 else lenQ L k) = _
    rw [sameKey_ne (kl_ne ht hn hk'.1 hk'.2 (fun e => hne (Prod.ext e.1 e.2)))]
    simp
  · show (if (left (kl t n) && !(kl t n).sameKey (kl t n)) = true then 0 else lenQ L (t, n)) = (if left (kl t n) = true then 0 else lenQ L (t, n)) + lenQ L (t, n)
    rw [WideAt.sameKey_self (kl_key ht hn), hl]
    simp
theorem seen_all {L : El} {left : Lit → Bool} (h : ∀ z, left z = false) : seen L left = (ks.map (lenQ L)).sum := by
  unfold seen
  congr 1
  apply List.map_congr_left
  intro k _
  rw [h]
  simp
theorem sum_le {f f' : Nat × Nat → Nat} : ∀ {l : List (Nat × Nat)}, (∀ k ∈ l, f k ≤ f' k) → (l.map f).sum ≤ (l.map f').sum
  | [], _ => by simp
  | k :: l, h => by
    simp only [List.map_cons, List.sum_cons]
    have h1 := h k (by simp)
    have h2 := sum_le (l := l) (fun j hj => h j (by simp [hj]))
    omega
theorem seen_le (L : El) (left : Lit → Bool) : seen L left ≤ (ks.map (lenQ L)).sum := by
  unfold seen
  refine sum_le fun k _ => ?_
  split <;> omega
theorem seen_none {L : El} {left : Lit → Bool} (h : ∀ t n, t < 16 → n < 32 → left (kl t n) = false → lenQ L (t, n) = 0) : seen L left = 0 := by
  unfold seen
  refine sum_zero fun k hk => ?_
  have hk' := mem_ks.1 hk
  cases hl : left (kl k.1 k.2) with
  | true => simp
  | false =>
    rw [if_neg (by simp)]
    exact h k.1 k.2 hk'.1 hk'.2 hl
/-- What has come out of a map's range. -/
theorem HD.came {D : DataW Value} {F : QF} (h : HD D F) {x c : Value} {l : Lit} {y : DataW Value × List MemPlace} (hk : keyOf Try.prog 78 x = some l) (hR : RQ c = some y) (hat : ∀ z, D.atKey l z = y.1) : ∃ t n, t < 16 ∧ n < 32 ∧ l = kl t n ∧ x = Ytoenipaccnpihaa.key t n ∧ F t n = some c := by
  obtain ⟨t, n, ht, hn, rfl⟩ := h.key l (has_true_of_atKey hat)
  refine ⟨t, n, ht, hn, rfl, keyed78.inj hk (kl_eq ht hn), ?_⟩
  have h1 := h.has t n ht hn
  rw [has_true_of_atKey hat] at h1
  obtain ⟨v, hv⟩ := Option.isSome_iff_exists.1 h1.symm
  have h2 := h.at_ t n v ht hn hv (.held v)
  rw [hat] at h2
  unfold RQ at hR
  simp only [Option.some.injEq] at hR
  subst hR
  injection h2 with h2
  rw [hv, h2]
theorem Fq_some {L : El} {g cap : Nat → Nat → Nat} {t n : Nat} {c : Value} (h : Fq L g cap t n = some c) : 16 ≤ n ∧ q L t n ≠ [] ∧ c = .slice (some ⟨g t n, 0, none⟩) (q L t n).length (cap t n) := by
  unfold Fq at h
  split at h
  · rename_i e
    exact ⟨e.1, e.2, by simpa using h.symm⟩
  · cases h
theorem Fq_isSome (L : El) (g cap : Nat → Nat → Nat) (t n : Nat) : (Fq L g cap t n).isSome = decide (16 ≤ n ∧ q L t n ≠ []) := by
  unfold Fq
  split
  · rename_i e; simp [e]
  · rename_i e; simp only [Option.isSome_none]; symm; simpa using e
set_option maxRecDepth 100000 in
theorem used_zero (w : World) (p : Option Addr) (h : Zs w p) : Calls Try.prog 17 #[.pointer p] w fun e w' => e = .returned (.int .i64 0) ∧ Kp w w' [] := by
  have H := hid (zero_yes w p h)
  clear h
  go_enter Try.func17, Try.ntmps17
  go_wp2_with fail
  refine H.out.mono ?_
  rintro e w1 ⟨rfl, hw⟩; obtain rfl := hw.symm
  go_wp2
  go_ret
  exact ⟨rfl, Kp.refl _ _⟩
set_option maxRecDepth 100000 in
theorem used_any (w : World) (sb : Nat) (R : List Nat) (T S : Nat) (M : Nat → Nat) (L : El) (h : Sg w sb R T S M L) : Calls Try.prog 17 #[.pointer (some ⟨sb, 0, none⟩)] w fun e w' => e = .returned (.int .i64 (used L : Nat)) ∧ Kp w w' [] := by
  have H := hid (zero_no w sb R T S M L h)
  obtain ⟨mb, g, cap, h⟩ := h
  have c0 := h.c.mp
  obtain ⟨D, ho, hd⟩ := h.m
  have HU := hid (show used L = (ks.map (lenQ L)).sum from used_sum L fun x hx => by have := h.ok.inn x hx; have := h.t2; omega)
  have HF := hid (show used L ≤ 32 from by have := h.ok.few; have := h.s2; omega)
  have HS := hid (show seen L (has D) = 0 from seen_none fun t n ht hn hl => by
    rw [hd.has t n ht hn, Fq_isSome] at hl
    unfold lenQ
    split
    · rename_i h16
      simp [h16] at hl
      simp [hl]
    · rfl)
  have HD' := hid hd
  have hlt := lt_of_block ho.choose_spec.choose_spec.1
  have hmb : mb ≠ w.heap.size := by omega
  clear h hd hlt
  go_enter Try.func17, Try.ntmps17
  go_wp2_with fail
  refine H.out.mono ?_
  rintro e w1 ⟨rfl, hw⟩; obtain rfl := hw.symm
  clear H
  go_wp2_with (first | (at_range; refine wpList_range_own _ rfl _ 59 rfl 78 43 keyed78 Try.underlying59 RQ mb 512 D rfl ho ?_; intro w0 hrg0 hg0 hs0) | fail)
  go_frame
  have HR0 := hid (show w0.ranges Try.prog 78 RQ mb w.heap.size 512 D (has D) (size D) ∧ Kp w w0 [] from ⟨hrg0, Kp.ofGrown hg0 (by simp)⟩)
  clear hrg0 hg0 hs0 ho c0
  go_loopw [3] (fun s wr => ∃ left cnt, s = .int .i64 (seen L left : Nat) ∧ Hid (wr.ranges Try.prog 78 RQ mb w.heap.size 512 D left cnt ∧ Kp w wr [])) (fun _ wr => wr.rangeLeft mb w.heap.size)
  case atStart => exact ⟨_, _, by rw [HS.out]; rfl, HR0⟩
  case round =>
    obtain ⟨left, cnt, rfl, hR⟩ := hrel
    have hrg := hR.out.1
    go_wp2_with (first | (at_next; refine wpList_next_ranges _ rfl _ rfl 78 keyed78 RQ (fun v => v) (fun v => v) (fun key kl h => ⟨key, rfl⟩) (fun v y h => ⟨v, rfl⟩) mb w.heap.size 512 D left cnt rfl hrg ?_ ?_) | fail)
    · intro hc0 hl0
      have e := seen_all (L := L) hl0
      rw [← HU.out] at e
      rw [e]
      have HK := hid hR.out.2
      clear hrg hc0 hl0 e
      go_wp2
      go_ret
      exact ⟨rfl, HK.out⟩
    · intro x c l y1 y2 w2 cnt2 hkx hlx hRy hat hrg2 hlt2 hg2 hs2 hen
      obtain ⟨t, n, ht, hn, rfl, rfl, hF⟩ := HD'.out.came hkx hRy hat
      obtain ⟨h16, hq, rfl⟩ := Fq_some hF
      have hst := seen_step (L := L) ht hn hlx
      have hle : lenQ L (t, n) = (q L t n).length := by simp [lenQ, h16]
      have HN := hid (show seen L (fun z => left z && !z.sameKey (kl t n)) = seen L left + (q L t n).length ∧ w2.ranges Try.prog 78 RQ mb w.heap.size 512 D (fun z => left z && !z.sameKey (kl t n)) cnt2 ∧ Kp w w2 [] ∧ w2.rangeLeft mb w.heap.size < wr.rangeLeft mb w.heap.size from
        ⟨by rw [hst, hle], hrg2, hR.out.2.past (Kp.ofGrown hg2 (rows := [w.heap.size]) (by simp)) (by intro j hj hl; simp at hj; omega), by rw [hrg2.left_eq, hrg.left_eq]; exact hlt2⟩)
      have hbd : seen L left + (q L t n).length ≤ 32 := by
        have h1 := seen_le L (fun z => left z && !z.sameKey (kl t n))
        rw [hst, hle, ← HU.out] at h1
        exact Nat.le_trans h1 HF.out
      clear hrg2 hlt2 hg2 hs2 hst hle hrg hkx hRy hat hF hR
      generalize (q L t n).length = N at HN hen hbd
      generalize seen L left = A at HN hbd
      have hwr : IntKind.i64.wrap ((A : Int) + N) = (A : Int) + N := IntWalk.i64_in _ ⟨by omega, by omega⟩
      go_wp2
      go_roundw
      case rel => exact ⟨_, cnt2, by rw [HN.out.1, Int.natCast_add], hid ⟨HN.out.2.1, HN.out.2.2.1⟩⟩
      case measure => exact HN.out.2.2.2
end Go.Proofs.Ytoenipaccnpihaa
