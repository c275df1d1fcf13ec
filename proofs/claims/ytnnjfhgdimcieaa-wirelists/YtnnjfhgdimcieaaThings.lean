/- wire.Take at numbers: a list of them, or nothing. -/
import Derived.Test.YtnnjfhgdimcieaaSpoil
namespace Go.Proofs.Ytnnjfhgdimcieaa
open Go.RowKit
set_option linter.unusedVariables false

/-- n numbers in a row. -/
def rlist : Nat → List Int → Option (List Nat × List Int)
  | 0, l => some ([], l)
  | n + 1, l => match rnum 0 0 l with
    | none => none
    | some (x, r) => match rlist n r with
      | none => none
      | some (xs, r') => some (x :: xs, r')
/-- A list of numbers, of at most so many. -/
def rtake (most : Int) (l : List Int) : Except Int (List Nat × List Int) := match rcnt most l with
  | .error e => .error e
  | .ok (n, r) => match rlist n r with
    | none => .error 4
    | some p => .ok p
abbrev uq (xs : List Nat) : List Value := xs.map fun (n : Nat) => Value.int .u64 (n : Int)

/-- Behind some that were read. -/
def joinl (xs : List Nat) (o : Option (List Nat × List Int)) : Option (List Nat × List Int) := match o with
  | none => none
  | some (ys, r) => some (xs ++ ys, r)
theorem joinl_nil (o : Option (List Nat × List Int)) : joinl [] o = o := by cases o <;> rfl
theorem joinl_step {xs : List Nat} {m : Nat} {l r : List Int} {x : Nat} (h : rnum 0 0 l = some (x, r)) : joinl xs (rlist (m + 1) l) = joinl (xs ++ [x]) (rlist m r) := by
  rw [rlist, h]
  cases hr : rlist m r with
  | none => simp [joinl, hr]
  | some p => simp [joinl, hr]
theorem joinl_none {xs : List Nat} {m : Nat} {l : List Int} (h : rnum 0 0 l = none) : joinl xs (rlist (m + 1) l) = none := by rw [rlist, h]; rfl
theorem rnum_shorter {l : List Int} {n : Nat} {r : List Int} (hb : Byt l) (h : rnum 0 0 l = some (n, r)) : r.length + 1 ≤ l.length ∧ Byt r := by
  have e := num_rnum hb h
  have hp := digs_pos 9 n
  refine ⟨?_, fun x hx => hb x (by rw [e]; exact List.mem_append_right _ hx)⟩
  rw [e, List.length_append]
  unfold num
  omega

/-- What a reading of a list leaves: its end, the rest. -/
def Took (q : Except Int (List Nat × List Int)) (base : Nat) (w' : World) (r2 : List Int) (en : Ending) : Prop := match q with
  | .error e => en = .returned (.tuple #[.slice none 0 0, .int .i64 e]) ∧ e ≠ 0
  | .ok (xs, r) => r2 = r ∧ ∃ v', en = .returned (.tuple #[v', .int .i64 0]) ∧ w'.ownsRow base 22 1 v' xs.length (uq xs)
theorem took_err {q : Except Int (List Nat × List Int)} {base : Nat} {w' : World} {r2 : List Int} {e : Int} (h : q = .error e) (hne : e ≠ 0) : Took q base w' r2 (.returned (.tuple #[.slice none 0 0, .int .i64 e])) := by
  subst h; exact ⟨rfl, hne⟩
theorem took_ok {q : Except Int (List Nat × List Int)} {base : Nat} {w' : World} {xs : List Nat} {r : List Int} {v' : Value} (h : q = .ok (xs, r)) (ho : w'.ownsRow base 22 1 v' xs.length (uq xs)) : Took q base w' r (.returned (.tuple #[v', .int .i64 0])) := by
  subst h; exact ⟨rfl, v', rfl, ho⟩
theorem owns_keep {w w' : World} {base e s rb n : Nat} {v : Value} {xs : List Value} (h : w.ownsRow base e s v n xs) (hg : w.grownBy w' (some rb)) (hb : rb < base) : w'.ownsRow base e s v n xs := by
  refine ⟨h.1, ?_⟩
  rcases h.2 with hh | ⟨g, cap, cur, hv, hb', hg', rest⟩
  · exact .inl hh
  · exact .inr ⟨g, cap, cur, hv, hb', (hg.block g (lt_of_block hg') (by simp; omega)).trans hg', rest⟩

theorem Try.info22 : (Try.prog.info? 22).map (fun i => (i.zero, i.size, i.bytes)) = some (some (.int .u64 0), 1, 8) := by kernel_rfl

theorem grown_own {w wr w1 : World} {o : Obj} {v : Value} {rb e s n : Nat} {xs : List Value} (hg : w.grownBy wr (some rb)) (hown : wr.ownsRow w.heap.size e s v n xs) (hgrow : (wr.alloc o).grownBy w1 v.ownBlock) : w.grownBy w1 (some rb) := grown_step hg hown hgrow
/-- A reader stays where a row that the call owns is written. -/
theorem rd_keep_own {wr w1 : World} {o : Obj} {v vk : Value} {l : List Int} {rb base e s n : Nat} {xs : List Value} (hr : Rd wr rb vk l) (hown : wr.ownsRow base e s v n xs) (hgrow : (wr.alloc o).grownBy w1 v.ownBlock) (hb : rb < base) (hv : l ≠ [] → ∀ k, vk.ownBlock = some k → k < base) : Rd w1 rb vk l := by
  have h1 := hr.alloc o
  have hne : v.ownBlock ≠ some rb := fun e => by have := (hown.lt rb e).1; omega
  by_cases hl : l = []
  · subst hl
    refine ⟨(hgrow.block rb (lt_of_block h1.1) (fun e => hne e.symm)).trans h1.1, ?_, h1.2.2⟩
    obtain ⟨ao, cap, rfl, a, b, c⟩ := h1.2.1
    exact ⟨ao, cap, rfl, a, b, fun h => absurd rfl h⟩
  · refine h1.keep hgrow hne ?_
    cases hk : vk.ownBlock with
    | none =>
      cases hv' : v.ownBlock with
      | none => exact .inl rfl
      | some g => exact .inr (by simp)
    | some k =>
      refine .inr fun e => ?_
      have := (hown.lt k e.symm).1
      have := hv hl k hk
      omega

set_option maxRecDepth 100000 in
set_option maxHeartbeats 1000000 in
theorem things_any (w : World) (rb : Nat) (v : Value) (l : List Int) (most : Int) (h : Rd w rb v l) (hby : Byt l) (hm : l.length ≤ 1048576) (hmo : most ≤ 9223372036854775807) :
    Calls Try.prog 64 #[.pointer (some ⟨rb, 0, none⟩), .int .i64 most, .func (.func 25) #[] #[]] w fun en w' => w.grownBy w' (some rb) ∧ ∃ v2 r2, Rd w' rb v2 r2 ∧ v2.ownBlock = v.ownBlock ∧
      Took (rtake most l) w.heap.size w' r2 en := by
  have hrb := lt_of_block h.1
  have HVB := hid (show 0 < l.length → ∀ k, v.ownBlock = some k → k < w.heap.size from fun hp k e => h.2.1.lt (by intro e; subst e; simp at hp) k e)
  obtain ⟨i0, hi, hz0, hz1, hz2⟩ := info_parts Try.info22
  have H := hid h
  have Hby := hid hby
  have Hm := hid hm
  clear h hby hm
  cases hc : rcnt most l with
  | error e =>
    have he : rtake most l = .error e := by unfold rtake; rw [hc]
    have hne : e ≠ 0 := by
      unfold rcnt at hc
      split at hc
      · cases hc; decide
      · split at hc
        · cases hc; decide
        · split at hc
          · cases hc; decide
          · cases hc
    have HE := hid he
    have HC := hid hc
    have hne' : (e != 0) = true := by simp [bne, hne]
    have HNE := hid hne
    clear hc he hne
    go_enter Try.func64, Try.ntmps64
    go_wp2_with fail
    refine (count_err w rb v l most e H.out Hby.out (by have := Hm.out; omega) hmo HC.out).mono ?_
    rintro en w1 ⟨rfl, hg1, v1, l1, hr1, ho1⟩
    have HG := hid hg1
    have HR := hid hr1
    have HB := hid ho1
    clear hg1 hr1 ho1
    go_wp2
    go_ret2
    exact ⟨HG.out, v1, l1, HR.out, HB.out, took_err HE.out HNE.out⟩
  | ok p =>
    obtain ⟨n, r0⟩ := p
    have HC := hid hc
    obtain ⟨hm0, hnm, hn⟩ := rcnt_ok hc
    have HT := hid (show rtake most l = match rlist n r0 with | none => .error 4 | some p => .ok p by unfold rtake; rw [hc])
    have hsh := rnum_shorter Hby.out hn
    have HS := hid hsh
    have hnb : (n : Int) ≤ 9223372036854775807 := by omega
    clear hc hn hsh
    go_enter Try.func64, Try.ntmps64
    go_wp2_with fail
    refine (count_ok w rb v l most n r0 H.out Hby.out (by have := Hm.out; omega) hmo HC.out).mono ?_
    rintro en w1 ⟨rfl, hg1, v1, hr1, ho1⟩
    have HG := hid hg1
    have HR := hid hr1
    have HB := hid ho1
    clear hg1 hr1 ho1
    go_wp2
    go_loopw [10, 23] (fun lv i wr => ∃ (k : Nat) (xs : List Nat) (lk : List Int) (vk : Value) (ao : Option Addr) (cp : Nat), k ≤ n ∧ i = .int .u64 k ∧ lv = .slice ao k cp ∧ Hid (wr.ownsRow w.heap.size 22 1 (.slice ao k cp) k (uq xs) ∧ xs.length = k) ∧ Hid (Rd wr rb vk lk ∧ vk.ownBlock = v.ownBlock ∧ Byt lk ∧ k + lk.length ≤ r0.length) ∧ Hid (rlist n r0 = joinl xs (rlist (n - k) lk)) ∧ Hid (w.grownBy wr (some rb)))
      (fun _ i _ => n - (intOf i).toNat)
    case atStart => exact ⟨0, [], r0, v1, none, 0, Nat.zero_le _, rfl, rfl, ⟨World.ownsRow_nil _ _ _ _, rfl⟩, ⟨HR.out, HB.out, HS.out.2, by omega⟩, (joinl_nil _).symm, HG.out⟩
    case round =>
      obtain ⟨k, xs, lk, vk, ao, cp, hk, rfl, rfl, hO, hR, hJ, hG⟩ := hrel
      by_cases hlt : k < n
      · have hlt' : (k : Int) < (n : Int) := by omega
        cases hx : rnum 0 0 lk with
        | none =>
          have HX := hid hx
          clear hx
          go_wp2_with fail
          refine (rNumber_no wr rb vk lk hR.out.1 hR.out.2.2.1 (by have := hR.out.2.2.2; have := HS.out.1; have := Hm.out; omega) HX.out).mono ?_
          rintro en w2 ⟨rfl, hg2, hr2⟩
          have HG2 := hid (grownBy_trans hG.out hg2)
          have HR2 := hid hr2
          clear hg2 hr2
          go_wp2
          go_ret2
          have hne : rlist n r0 = none := by rw [hJ.out, show n - k = (n - k - 1) + 1 by omega]; exact joinl_none HX.out
          exact ⟨HG2.out, vk, lk, HR2.out, hR.out.2.1, took_err (by rw [HT.out, hne]) (by decide)⟩
        | some p =>
          obtain ⟨x, r⟩ := p
          have HX := hid hx
          have HSX := hid (rnum_shorter hR.out.2.2.1 hx)
          clear hx
          go_wp2_with fail
          refine (rNumber_yes wr rb vk lk x r hR.out.1 hR.out.2.2.1 (by have := hR.out.2.2.2; have := HS.out.1; have := Hm.out; omega) HX.out).mono ?_
          rintro en w2 ⟨rfl, hg2, v2, hr2, ho2⟩
          have HO2 := hid (owns_keep hO.out.1 hg2 hrb)
          have HXL := hid hO.out.2
          have HG2 := hid (grownBy_trans hG.out hg2)
          have HR2 := hid hr2
          have HB2 := hid (ho2.trans hR.out.2.1)
          have hlk := hR.out.2.2.2
          have hsz2 := HG2.out.size
          clear hg2 hr2 ho2
          have hkb : k ≤ 1048576 := by have := HS.out.1; have := Hm.out; omega
          go_wp2_with (at_builtin; refine wpList_append_own _ rfl _ _ 84 rfl w.heap.size 22 i0 (.int .u64 0) 1 8 Try.underlying84 hi hz0 hz1 hz2 rfl (by decide) _ k (uq xs) rfl (HO2.out.alloc _) ⟨_, 0, none⟩ 1 1 [.int .u64 x] rfl rfl (cell_one_new _ _ _) (one_one _ _) (by unfold maxLen; omega) (by omega) (by simp; omega) ?_; intro v' w3 hown' hgrow hiff; clear hiff)
          have HO3 := hid hown'
          have G3 := hid (grown_own HG2.out HO2.out hgrow)
          obtain ⟨ao', cp', rfl⟩ := owns_shape hown'
          have HR3 := hid (rd_keep_own HR2.out HO2.out hgrow hrb (fun hne j e => HVB.out (by have := HS.out.1; omega) j (HB2.out ▸ e)))
          clear hown' hgrow
          go_wp2
          go_roundw
          case rel =>
            refine ⟨k + 1, xs ++ [x], r, v2, ao', cp', by omega, by go_num, rfl, ⟨?_, by simp [HXL.out]⟩, ⟨HR3.out, HB2.out, HSX.out.2, by have := HSX.out.1; omega⟩, ?_, G3.out⟩
            · have := HO3.out
              simpa [uq] using this
            · rw [hJ.out, show n - k = (n - (k + 1)) + 1 by omega]
              exact joinl_step HX.out
          case measure => simp [intOf]; omega
      · have hlt' : ¬ (k : Int) < (n : Int) := by omega
        have hkn := hid (show k = n by omega)
        go_wp2
        go_ret2
        have hs : rlist n r0 = some (xs, lk) := by rw [hJ.out, hkn.out, Nat.sub_self, rlist]; simp [joinl]
        exact ⟨hG.out, vk, lk, hR.out.1, hR.out.2.1, took_ok (by rw [HT.out, hs]) (by have := hO.out; rw [this.2]; exact this.1)⟩

/-- Take: all of the list, or nothing, and then the reader is as it was. -/
def Took2 (q : Except Int (List Nat × List Int)) (base rb : Nat) (v : Value) (l : List Int) (w' : World) (en : Ending) : Prop := match q with
  | .error e => en = .returned (.tuple #[.slice none 0 0, .int .i64 e]) ∧ Rd w' rb v l
  | .ok (xs, r) => (∃ v', en = .returned (.tuple #[v', .int .i64 0]) ∧ w'.ownsRow base 22 1 v' xs.length (uq xs)) ∧ ∃ v2, Rd w' rb v2 r ∧ v2.ownBlock = v.ownBlock

set_option maxRecDepth 100000 in
set_option maxHeartbeats 1000000 in
theorem take_any (w : World) (rb : Nat) (v : Value) (l : List Int) (most : Int) (h : Rd w rb v l) (hby : Byt l) (hm : l.length ≤ 1048576) (hmo : most ≤ 9223372036854775807) :
    Calls Try.prog 43 #[.pointer (some ⟨rb, 0, none⟩), .int .i64 most, .func (.func 25) #[] #[]] w fun en w' => w.grownBy w' (some rb) ∧ Took2 (rtake most l) w.heap.size rb v l w' en := by
  have hfn : ∀ w : World, (binOp .eql 87 (.func (.func 25) #[] #[]) .nilFunc).run Try.prog w = .ok (.bool false) w := fun _ => by kernel_rfl
  obtain ⟨ao, cap, rfl⟩ := h.shape
  have H := hid h
  have Hby := hid hby
  have Hm := hid hm
  have hc0 := cell_two0 h.1
  have hc1 := cell_two1 h.1
  have hf0 := free_two (i := 0) h.1
  have hf1 := free_two (i := 1) h.1
  have hlt := lt_of_block h.1
  clear h hby hm
  go_enter Try.func43, Try.ntmps43
  go_wp2_with (first | (go_at_call 45; go_in) | (go_at_call 62; go_in) | (go_at_call 63; go_in))
  refine (things_any _ rb _ l most (((H.out.alloc _).alloc _).alloc _) Hby.out Hm.out hmo).mono ?_
  rintro en w1 ⟨hg1, v1, r1, hr1, ho1, htk⟩
  cases hq : rtake most l with
  | error e =>
    rw [hq] at htk
    obtain ⟨rfl, hne⟩ := htk
    have k0 := cell_two0 hr1.1
    have k1 := cell_two1 hr1.1
    have k2 := free_two (i := 0) hr1.1
    have k3 := free_two (i := 1) hr1.1
    have k4 : w1.heap[w.heap.size + 1 + 1]? = some (.cells #[.slice ao l.length cap, .bool true] 73 (0, 0)) := by
      have := kept_two hg1 (by simp; omega)
      simpa using this
    have k5 := cell_two0 k4
    have k6 := cell_two1 k4
    have k7 : (e != 0) = true := by simp [bne, hne]
    have HR := hid hr1
    have HG := hid hg1
    have HQ := hid hq
    clear hr1 hg1 k4 hne hq ho1
    go_wp2
    go_ret2
    refine ⟨grownBy_trans (grownBy_mono (grownBy_trans (World.grownBy_alloc w _ none) (World.grownBy_alloc _ _ none))) (grown_back HG.out), ?_⟩
    rw [HQ.out]
    exact ⟨rfl, rd_back ((H.out.alloc _).alloc _) HG.out HR.out⟩
  | ok p =>
    obtain ⟨xs, r⟩ := p
    rw [hq] at htk
    obtain ⟨rfl, v', rfl, hown⟩ := htk
    obtain ⟨ao', cp', rfl⟩ := owns_shape hown
    have HO := hid hown
    have HR := hid hr1
    have HG := hid hg1
    have HB := hid ho1
    have HQ := hid hq
    clear hr1 hg1 ho1 hown hq
    go_wp2
    go_ret2
    refine ⟨grownBy_trans (grownBy_mono (grownBy_trans (grownBy_trans (World.grownBy_alloc w _ none) (World.grownBy_alloc _ _ none)) (World.grownBy_alloc _ _ none))) HG.out, ?_⟩
    rw [HQ.out]
    exact ⟨⟨_, rfl, owns_base HO.out (by simp; omega)⟩, v1, HR.out, HB.out⟩
end Go.Proofs.Ytnnjfhgdimcieaa
