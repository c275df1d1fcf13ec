/- (*wire.Reader).count and bytes. -/
import Derived.Test.YtnnjfhgdimcieaaOpen
namespace Go.Proofs.Ytnnjfhgdimcieaa
open Go.RowKit

/-- How many come, of at most so many: their number and the rest, or the error. -/
def rcnt (most : Int) (l : List Int) : Except Int (Nat × List Int) :=
  if most < 0 then .error 2 else match rnum 0 0 l with
  | none => .error 4
  | some (n, r) => if most < (n : Int) then .error 3 else .ok (n, r)

/-- Bytes of at most so many: they and the rest, or the error. -/
def rbytes (most : Int) (l : List Int) : Except Int (List Int × List Int) := match rcnt most l with
  | .error e => .error e
  | .ok (n, r) => if r.length < n then .error 4 else .ok (r.take n, r.drop n)

theorem rnum_rest {l : List Int} {i acc n : Nat} {r : List Int} (h : rnum i acc l = some (n, r)) : (∃ p, l = p ++ r) := by
  induction l generalizing i acc with
  | nil => simp [rnum] at h
  | cons c l ih =>
    rw [rnum] at h
    split at h
    · cases h
    · split at h
      · cases h
      · split at h
        · simp at h
          exact ⟨[c], by simp [h.2]⟩
        · obtain ⟨p, hp⟩ := ih h
          exact ⟨c :: p, by simp [← hp]⟩
theorem rnum_bound {l : List Int} {i acc n : Nat} {r : List Int} (hb : Byt l) (hi : i ≤ 9) (ha : acc < 128 ^ i) (h : rnum i acc l = some (n, r)) : n < 18446744073709551616 := by
  induction l generalizing i acc with
  | nil => simp [rnum] at h
  | cons c l ih =>
    rw [rnum] at h
    obtain ⟨c0, c1⟩ := hb c (by simp)
    split at h
    · cases h
    · rename_i h9
      split at h
      · cases h
      · split at h
        · rename_i h128
          simp at h
          have h1 := acc_next acc i c.toNat ha (by omega)
          rcases Nat.lt_or_ge i 9 with h' | h'
          · have := Nat.pow_le_pow_right (n := 128) (by decide) (show i + 1 ≤ 9 by omega)
            have h9 : 128 ^ 9 = 9223372036854775808 := by decide
            omega
          · obtain rfl : i = 9 := by omega
            have h9' : 128 ^ 9 = 9223372036854775808 := by decide
            rw [h9'] at h ha
            have hc1 : c.toNat ≤ 1 := by omega
            have : c.toNat * 9223372036854775808 ≤ 1 * 9223372036854775808 := Nat.mul_le_mul_right _ hc1
            omega
        · refine ih (fun x hx => hb x (by simp [hx])) ?_ ?_ h
          · omega
          · exact acc_next acc i _ ha (by omega)

set_option maxRecDepth 100000 in
set_option maxHeartbeats 400000 in
theorem count_err (w : World) (rb : Nat) (v : Value) (l : List Int) (most e : Int) (h : Rd w rb v l) (hby : Byt l) (hm : l.length < 9223372036854775807) (hmo : most ≤ 9223372036854775807) (hq : rcnt most l = .error e) :
    Calls Try.prog 66 #[.pointer (some ⟨rb, 0, none⟩), .int .i64 most] w fun en w' => en = .returned (.tuple #[.int .u64 0, .int .i64 e]) ∧ w.grownBy w' (some rb) ∧ ∃ v' l', Rd w' rb v' l' ∧ v'.ownBlock = v.ownBlock := by
  have H := hid h
  have Hby := hid hby
  have Hm := hid hm
  unfold rcnt at hq
  clear h hby hm
  split at hq
  · rename_i h0
    cases hq
    go_enter Try.func66, Try.ntmps66
    go_wp2
    go_ret2
    exact ⟨rfl, World.grownBy.refl _ _, v, l, H.out, rfl⟩
  · rename_i h0
    have h0' : 0 ≤ most := by omega
    clear h0
    split at hq
    · rename_i hn
      cases hq
      have Hn := hid hn
      clear hn
      go_enter Try.func66, Try.ntmps66
      go_wp2_with (go_at_call 47; refine (rnumber_no _ rb _ l H.out Hby.out Hm.out Hn.out).mono ?_; rintro e w1 ⟨rfl, hg1, v1, l1, hr1, ho1⟩; have HR := hid hr1; have HG := hid hg1; have HB := hid ho1; clear hr1 hg1 ho1)
      go_ret2
      exact ⟨rfl, HG.out, v1, l1, HR.out, HB.out⟩
    · rename_i n r hn
      split at hq
      · rename_i hlt
        cases hq
        have Hn := hid hn
        clear hn
        go_enter Try.func66, Try.ntmps66
        go_wp2_with (go_at_call 47; refine (rnumber_yes _ rb _ l n r H.out Hby.out Hm.out Hn.out).mono ?_; rintro e w1 ⟨rfl, hg1, v1, hr1, ho1⟩; have HR := hid hr1; have HG := hid hg1; have HB := hid ho1; clear hr1 hg1 ho1)
        go_ret2
        exact ⟨rfl, HG.out, v1, r, HR.out, HB.out⟩
      · cases hq

set_option maxRecDepth 100000 in
set_option maxHeartbeats 400000 in
theorem count_ok (w : World) (rb : Nat) (v : Value) (l : List Int) (most : Int) (n : Nat) (r : List Int) (h : Rd w rb v l) (hby : Byt l) (hm : l.length < 9223372036854775807) (hmo : most ≤ 9223372036854775807) (hq : rcnt most l = .ok (n, r)) :
    Calls Try.prog 66 #[.pointer (some ⟨rb, 0, none⟩), .int .i64 most] w fun en w' => en = .returned (.tuple #[.int .u64 n, .int .i64 0]) ∧ w.grownBy w' (some rb) ∧ ∃ v', Rd w' rb v' r ∧ v'.ownBlock = v.ownBlock := by
  have H := hid h
  have Hby := hid hby
  have Hm := hid hm
  unfold rcnt at hq
  clear h hby hm
  split at hq
  · cases hq
  · rename_i h0
    have h0' : 0 ≤ most := by omega
    clear h0
    split at hq
    · cases hq
    · rename_i n' r' hn
      split at hq
      · cases hq
      · rename_i hlt
        cases hq
        have hle : (n : Int) ≤ most := by omega
        have Hn := hid hn
        clear hn
        go_enter Try.func66, Try.ntmps66
        go_wp2_with (go_at_call 47; refine (rnumber_yes _ rb _ l n r H.out Hby.out Hm.out Hn.out).mono ?_; rintro e w1 ⟨rfl, hg1, v1, hr1, ho1⟩; have HR := hid hr1; have HG := hid hg1; have HB := hid ho1; clear hr1 hg1 ho1)
        go_ret2
        exact ⟨rfl, HG.out, v1, HR.out, HB.out⟩

/-- Bytes of a slice: its first n, and the rest. -/
theorem bs_take {w : World} {ao : Option Addr} {cap n : Nat} {l : List Int} (h : Bs w (.slice ao l.length cap) l) (hn : n ≤ l.length) : Bs w (.slice ao n cap) (l.take n) := by
  obtain ⟨ao', cap', hv, hl, hnn, hc⟩ := h
  simp only [Value.slice.injEq, true_and] at hv
  obtain ⟨rfl, rfl⟩ := hv
  have hlen : (l.take n).length = n := by simp; omega
  refine ⟨ao, cap, by rw [hlen], by omega, hnn, fun hne => ?_⟩
  obtain ⟨b, off, rfl, hcell⟩ := hc (by intro e; subst e; simp at hne)
  refine ⟨b, off, rfl, fun i hi => ?_⟩
  rw [hcell i (by omega)]
  simp [List.getD, show i < n by omega]
theorem bs_drop {w : World} {b off cap n : Nat} {l : List Int} (h : Bs w (.slice (some ⟨b, off, none⟩) l.length cap) l) (hn : n ≤ l.length) : Bs w (.slice (some ⟨b, off + n, none⟩) (l.length - n) (cap - n)) (l.drop n) := by
  obtain ⟨ao', cap', hv, hl, hnn, hc⟩ := h
  simp only [Value.slice.injEq, true_and] at hv
  obtain ⟨rfl, rfl⟩ := hv
  have hlen : (l.drop n).length = l.length - n := by simp
  refine ⟨_, _, by rw [hlen], by omega, by simp, fun hne => ?_⟩
  obtain ⟨b', off', e, hcell⟩ := hc (by intro e; subst e; simp at hne)
  simp only [Option.some.injEq, Addr.mk.injEq, and_true] at e
  obtain ⟨rfl, rfl⟩ := e
  refine ⟨b, off + n, rfl, fun i hi => ?_⟩
  rw [Nat.add_assoc, hcell (n + i) (by omega)]
  simp [List.getD, List.getElem?_drop]


set_option maxRecDepth 100000 in
set_option maxHeartbeats 400000 in
theorem bytes_err (w : World) (rb : Nat) (v : Value) (l : List Int) (most e : Int) (h : Rd w rb v l) (hby : Byt l) (hm : l.length < 9223372036854775807) (hmo : most ≤ 9223372036854775807) (hq : rbytes most l = .error e) :
    Calls Try.prog 52 #[.pointer (some ⟨rb, 0, none⟩), .int .i64 most] w fun en w' => en = .returned (.tuple #[.slice none 0 0, .int .i64 e]) ∧ (e == 0) = false ∧ w.grownBy w' (some rb) ∧ ∃ v' l', Rd w' rb v' l' ∧ v'.ownBlock = v.ownBlock := by
  have H := hid h
  have Hby := hid hby
  have Hm := hid hm
  unfold rbytes at hq
  clear h hby hm
  split at hq
  · rename_i e' he
    cases hq
    have hne : (e != 0) = true := by
      unfold rcnt at he
      split at he
      · cases he; rfl
      · split at he
        · cases he; rfl
        · split at he <;> cases he
          rfl
    have He := hid he
    clear he
    go_enter Try.func52, Try.ntmps52
    go_wp2_with (go_at_call 66; refine (count_err _ rb _ l most e H.out Hby.out Hm.out hmo He.out).mono ?_; rintro e w1 ⟨rfl, hg1, v1, l1, hr1, ho1⟩; have HR := hid hr1; have HG := hid hg1; have HB := hid ho1; clear hr1 hg1 ho1)
    go_ret2
    exact ⟨rfl, by simpa [bne] using hne, HG.out, v1, l1, HR.out, HB.out⟩
  · rename_i n r he
    split at hq
    · rename_i hlt
      cases hq
      have He := hid he
      have hrl : r.length < 9223372036854775807 := by
        unfold rcnt at he
        split at he
        · cases he
        · split at he
          · cases he
          · rename_i hn
            split at he
            · cases he
            · cases he
              obtain ⟨p, rfl⟩ := rnum_rest hn
              have := Hm.out
              simp at this
              omega
      have hrl' : (r.length : Int) < (n : Int) := by omega
      clear he
      go_enter Try.func52, Try.ntmps52
      go_wp2_with (go_at_call 66; refine (count_ok _ rb _ l most n r H.out Hby.out Hm.out hmo He.out).mono ?_; rintro e w1 ⟨rfl, hg1, v1, hr1, ho1⟩; obtain ⟨ao, cap, rfl⟩ := hr1.shape; have k0 := cell_two0 hr1.1; have HR := hid hr1; have HG := hid hg1; have HB := hid ho1; clear hr1 hg1 ho1)
      go_ret2
      exact ⟨rfl, rfl, HG.out, _, r, HR.out, HB.out⟩
    · cases hq


theorem Addr.add_block (a : Addr) (n : Nat) : (a.add n).block = a.block := by
  unfold Addr.add
  split <;> rfl
theorem owns_base {w : World} {base base' e s : Nat} {v : Value} {n : Nat} {xs : List Value} (h : w.ownsRow base e s v n xs) (hb : base' ≤ base) : w.ownsRow base' e s v n xs := by
  refine ⟨h.1, ?_⟩
  rcases h.2 with h2 | ⟨g, cap, cur, hv, hg, r⟩
  · exact .inl h2
  · exact .inr ⟨g, cap, cur, hv, Nat.le_trans hb hg, r⟩
theorem bs_drop_any {w : World} {a : Addr} {cap n : Nat} {l : List Int} (h : Bs w (.slice (some a) l.length cap) l) (hn : n ≤ l.length) : Bs w (.slice (some (a.add n)) (l.length - n) (cap - n)) (l.drop n) := by
  by_cases hl : l = []
  · subst hl
    obtain ⟨ao', cap', hv, hl, hnn, hc⟩ := h
    exact ⟨some (a.add n), cap - n, by simp, by simp, by simp, fun h => by simp at h⟩
  · obtain ⟨ao', cap', hv, hl', hnn, hc⟩ := h
    simp only [Value.slice.injEq, true_and] at hv
    obtain ⟨rfl, rfl⟩ := hv
    obtain ⟨b, off, e, hcell⟩ := hc hl
    simp only [Option.some.injEq] at e
    subst e
    rw [Addr.add_lit]
    exact bs_drop ⟨_, _, rfl, hl', hnn, fun _ => ⟨b, off, rfl, hcell⟩⟩ hn
theorem bs_drop_end {w : World} {ao : Option Addr} {cap n k : Nat} {l : List Int} (hn : n ≤ l.length) (hl : l.length ≤ cap) (hc : cap = n) (hk : k = l.length - n) : Bs w (.slice ao k 0) (l.drop n) := by
  have h0 : l.drop n = [] := List.drop_eq_nil_of_le (by omega)
  rw [h0, show k = 0 by omega]
  exact ⟨_, _, rfl, by simp, fun _ => rfl, fun h => absurd rfl h⟩

theorem own_ne {w w1 w2 : World} {row : Option Nat} {rb e s : Nat} {v : Value} {n : Nat} {xs : List Value} (h : w2.ownsRow w1.heap.size e s v n xs) (hg : w.grownBy w1 row) (hlt : rb < w.heap.size) : v.ownBlock ≠ some rb := by
  intro he
  have := (h.lt rb he).1
  have := hg.size
  omega

theorem rcnt_ok {most : Int} {l : List Int} {n : Nat} {r : List Int} (h : rcnt most l = .ok (n, r)) : 0 ≤ most ∧ (n : Int) ≤ most ∧ rnum 0 0 l = some (n, r) := by
  unfold rcnt at h
  split at h
  · cases h
  · split at h
    · cases h
    · rename_i hn
      split at h
      · cases h
      · cases h
        exact ⟨by omega, by omega, hn⟩

set_option maxRecDepth 100000 in
set_option maxHeartbeats 400000 in
theorem bytes_ok (w : World) (rb : Nat) (v : Value) (l : List Int) (most : Int) (d r : List Int) (h : Rd w rb v l) (hby : Byt l) (hm : l.length ≤ 140737488355328) (hmo : most ≤ 9223372036854775807) (hq : rbytes most l = .ok (d, r)) :
    Calls Try.prog 52 #[.pointer (some ⟨rb, 0, none⟩), .int .i64 most] w fun en w' => ∃ v', en = .returned (.tuple #[v', .int .i64 0]) ∧ w'.ownsRow w.heap.size 5 1 v' d.length (ub d) ∧ w.grownBy w' (some rb) ∧ ∃ v2, Rd w' rb v2 r ∧ v2.ownBlock = v.ownBlock := by
  have H := hid h
  have Hby := hid hby
  have Hm := hid hm
  have hlt0 := lt_of_block h.1
  unfold rbytes at hq
  clear h hby hm
  split at hq
  · cases hq
  · rename_i n r0 he
    split at hq
    · cases hq
    · rename_i hlt
      simp only [Except.ok.injEq, Prod.mk.injEq] at hq
      have Hd := hid hq.1
      have Hr := hid hq.2
      clear hq
      obtain ⟨hm0, hnm, hn⟩ := rcnt_ok he
      have He := hid he
      have hrl : r0.length ≤ 140737488355328 := by
        obtain ⟨p, rfl⟩ := rnum_rest hn
        have := Hm.out
        simp at this
        omega
      have hrl' : (n : Int) ≤ (r0.length : Int) := by omega
      have hrln : n ≤ r0.length := by omega
      clear he hn hlt hnm
      go_enter Try.func52, Try.ntmps52
      go_wp2_with fail
      refine (count_ok _ rb _ l most n r0 H.out Hby.out (by have := Hm.out; omega) hmo He.out).mono ?_
      rintro e w1 ⟨rfl, hg1, v1, hr1, ho1⟩
      obtain ⟨ao, cap, rfl⟩ := hr1.shape
      have k0 := cell_two0 hr1.1
      have k2 := free_two (i := 0) hr1.1
      have hcap : r0.length ≤ cap := by obtain ⟨-, ⟨_, _, hv, hl, -⟩, -⟩ := hr1; cases hv; exact hl
      have HR := hid hr1
      have HG := hid hg1
      have HB := hid ho1
      clear hr1 hg1 ho1
      go_wp2_with fail
      refine (clone_any w1 _ (r0.take n) (bs_take HR.out.2.1 hrln) (by simp; omega)).mono ?_
      rw [Hd.out]
      rintro e w2 ⟨v', rfl, hown, hg2⟩
      have hr2 := HR.out.keep hg2 (by simp) (.inl rfl)
      have HR2 := hid hr2
      have k3 := cell_two0 hr2.1
      have k4 := free_two (i := 0) hr2.1
      have HO := hid hown
      have HG2 := hid hg2
      clear hown hg2 hr2 k0 k2 HR
      cases ao with
      | none =>
        have hz : cap = 0 := by obtain ⟨-, ⟨_, _, hv, hl, hnn, -⟩, -⟩ := HR2.out; cases hv; exact hnn rfl
        subst hz
        obtain rfl : n = 0 := by omega
        go_wp2
        go_ret2
        refine ⟨_, rfl, owns_base (ownsRow_setCell_other HO.out (own_ne HO.out HG.out hlt0) _) HG.out.size, grownBy_trans (grownBy_trans HG.out (grownBy_mono HG2.out)) (grownBy_setCell _ ⟨rb, 0, none⟩ _), _, rd_set HR2.out ?_ ?_, ?_⟩
        · rw [← Hr.out]
          exact bs_drop_end (Nat.zero_le _) hcap rfl (by omega)
        · simp [Value.ownBlock]
        · have := HB.out
          simpa [Value.ownBlock] using this
      | some a =>
        go_wp2
        all_goals go_ret2
        all_goals refine ⟨_, rfl, owns_base (ownsRow_setCell_other HO.out (own_ne HO.out HG.out hlt0) _) HG.out.size, grownBy_trans (grownBy_trans HG.out (grownBy_mono HG2.out)) (grownBy_setCell _ ⟨rb, 0, none⟩ _), _, rd_set HR2.out ?_ ?_, ?_⟩
        · rw [← Hr.out]
          exact bs_drop_end hrln hcap (by assumption) rfl
        · exact fun e => HR2.out.2.2 (by simpa [Value.ownBlock] using e)
        · have := HB.out
          simpa [Value.ownBlock] using this
        · rw [← Hr.out]
          exact bs_drop_any HR2.out.2.1 hrln
        · exact fun e => HR2.out.2.2 (by simpa [Value.ownBlock, Addr.add_block] using e)
        · have := HB.out
          simpa [Value.ownBlock, Addr.add_block] using this
end Go.Proofs.Ytnnjfhgdimcieaa
