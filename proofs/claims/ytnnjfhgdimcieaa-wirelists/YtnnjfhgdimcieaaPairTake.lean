/- pair: two numbers in a row; wire.Take at pairs: a list of them, or nothing. -/
import Derived.Test.YtnnjfhgdimcieaaPairs
namespace Go.Proofs.Ytnnjfhgdimcieaa
open Go.RowKit
set_option linter.unusedVariables false
set_option linter.unusedSimpArgs false

theorem rd_set_new {w : World} {rb N i : Nat} {v x : Value} {l : List Int} (h : Rd w rb v l) (hne : N ≠ rb) (hv : l ≠ [] → v.ownBlock ≠ some N) : Rd (w.setCell ⟨N, i, none⟩ x) rb v l := by
  by_cases hl : l = []
  · subst hl
    have hg := grownBy_setCell w ⟨N, i, none⟩ x
    refine ⟨(hg.block rb (lt_of_block h.1) (by simp; omega)).trans h.1, ?_, h.2.2⟩
    obtain ⟨ao, cap, rfl, a, b, c⟩ := h.2.1
    exact ⟨ao, cap, rfl, a, b, fun h => absurd rfl h⟩
  · exact h.keep (grownBy_setCell w ⟨N, i, none⟩ x) (by simp; omega) (.inr (hv hl))
/-- A new cell of two is written: nothing elder but the reader's. -/
theorem grown_two {w w1 : World} {o : Obj} {rb : Nat} {x y : Value} (hg : (w.alloc o).grownBy w1 (some rb)) : w.grownBy ((w1.setCell ⟨w.heap.size, 0, none⟩ x).setCell ⟨w.heap.size, 1, none⟩ y) (some rb) := by
  refine ⟨hg.os, hg.tape, hg.output, ?_, fun k hk hr => ?_⟩
  · have := hg.size; simp at this ⊢; omega
  · rw [Below.heap_setCell _ _ _ _ (by simp; omega), Below.heap_setCell _ _ _ _ (by simp; omega), hg.block k (by simp; omega) hr, Below.heap_alloc _ _ _ hk]
theorem two_set {w : World} {N : Nat} {a b x y : Value} {t : TypeId} (h : w.heap[N]? = some (.cells #[a, b] t (0, 0))) : ((w.setCell ⟨N, 0, none⟩ x).setCell ⟨N, 1, none⟩ y).heap[N]? = some (.cells #[x, y] t (0, 0)) := two_setCell1 (two_setCell h)

set_option maxRecDepth 100000 in
set_option maxHeartbeats 1000000 in
theorem pair_no (w : World) (rb : Nat) (v : Value) (l : List Int) (h : Rd w rb v l) (hby : Byt l) (hm : l.length ≤ 200000000000000) (hq : rpair l = none) :
    Calls Try.prog 32 #[.pointer (some ⟨rb, 0, none⟩)] w fun en w' => w.grownBy w' (some rb) ∧ ∃ (x y : Int) (v2 : Value) (r2 : List Int), en = .returned (.tuple #[.agg #[.int .u64 x, .int .u64 y], .int .i64 4]) ∧ Rd w' rb v2 r2 ∧ v2.ownBlock = v.ownBlock := by
  have H := hid h
  have Hby := hid hby
  have Hm := hid hm
  have hlt := lt_of_block h.1
  have HVB := hid (show l ≠ [] → v.ownBlock ≠ some w.heap.size from fun hne e => by have := h.2.1.lt hne _ e; omega)
  have HR1 := hid (h.alloc (.cells #[.int .u64 0, .int .u64 0] 59))
  have hres : Try.f32.results = #[.cell 2 59, .tmp 3] := rfl
  unfold rpair at hq
  clear h hby hm
  split at hq
  · rename_i h1
    have HN := hid h1
    clear h1 hq
    go_enter Try.func32, Try.ntmps32
    go_wp2_with fail
    refine (rNumber_no _ rb v l HR1.out Hby.out (by have := Hm.out; omega) HN.out).mono ?_
    rintro en w1 ⟨rfl, hg1, hr1⟩
    have HR2 := hid hr1
    have HG := hid hg1
    have kb : w1.heap[w.heap.size]? = some (.cells #[.int .u64 0, .int .u64 0] 59 (0, 0)) := (hg1.block w.heap.size (by simp) (by simp; omega)).trans (heap_alloc_new w _)
    have c0 := cell_two0 kb
    have c1 := cell_two1 kb
    have f0 := free_two (i := 0) kb
    have f1 := free_two (i := 1) kb
    clear hg1 hr1
    go_wp2
    have kz := two_set (x := .int .u64 0) (y := .int .u64 0) kb
    have z0 := cell_two0 kz
    have z1 := cell_two1 kz
    refine bodyPost_ret (v := .tuple #[.agg #[.int .u64 0, .int .u64 0], .int .i64 4]) (by simp [results, hres, go_sem, z0, z1]) rfl ⟨grown_two HG.out, 0, 0, v, l, rfl, rd_set_new (rd_set_new HR2.out (by omega) HVB.out) (by omega) HVB.out, rfl⟩
  · rename_i a r h1
    have HN := hid h1
    have HS := hid (rnum_shorter Hby.out h1)
    have HNE := hid (show l ≠ [] by intro e; subst e; simp [rnum] at h1)
    split at hq
    · rename_i h2
      have HN2 := hid h2
      clear h1 h2 hq
      go_enter Try.func32, Try.ntmps32
      go_wp2_with fail
      refine (rNumber_yes _ rb v l a r HR1.out Hby.out (by have := Hm.out; omega) HN.out).mono ?_
      rintro en w1 ⟨rfl, hg1, v1, hr1, ho1⟩
      have HR2 := hid hr1
      have HO := hid ho1
      have HG := hid hg1
      clear hg1 hr1 ho1
      go_wp2_with fail
      refine (rNumber_no w1 rb v1 r HR2.out HS.out.2 (by have := Hm.out; have := HS.out.1; omega) HN2.out).mono ?_
      rintro en w2 ⟨rfl, hg2, hr2⟩
      have HG2 := hid (grownBy_trans HG.out hg2)
      have HR3 := hid hr2
      have kb : w2.heap[w.heap.size]? = some (.cells #[.int .u64 0, .int .u64 0] 59 (0, 0)) := (HG2.out.block w.heap.size (by simp) (by simp; omega)).trans (heap_alloc_new w _)
      have c0 := cell_two0 kb
      have c1 := cell_two1 kb
      have f0 := free_two (i := 0) kb
      have f1 := free_two (i := 1) kb
      clear hg2 hr2
      go_wp2
      have kz := two_set (x := .int .u64 a) (y := .int .u64 0) kb
      have z0 := cell_two0 kz
      have z1 := cell_two1 kz
      refine bodyPost_ret (v := .tuple #[.agg #[.int .u64 a, .int .u64 0], .int .i64 4]) (by simp [results, hres, go_sem, z0, z1]) rfl ⟨grown_two HG2.out, a, 0, v1, r, rfl, rd_set_new (rd_set_new HR3.out (by omega) (fun _ => by rw [HO.out]; exact HVB.out HNE.out)) (by omega) (fun _ => by rw [HO.out]; exact HVB.out HNE.out), HO.out⟩
    · cases hq

set_option maxRecDepth 100000 in
set_option maxHeartbeats 1000000 in
theorem pair_yes (w : World) (rb : Nat) (v : Value) (l : List Int) (p : Nat × Nat) (r : List Int) (h : Rd w rb v l) (hby : Byt l) (hm : l.length ≤ 200000000000000) (hq : rpair l = some (p, r)) :
    Calls Try.prog 32 #[.pointer (some ⟨rb, 0, none⟩)] w fun en w' => w.grownBy w' (some rb) ∧ en = .returned (.tuple #[.agg #[.int .u64 p.1, .int .u64 p.2], .int .i64 0]) ∧ ∃ v2, Rd w' rb v2 r ∧ v2.ownBlock = v.ownBlock := by
  have H := hid h
  have Hby := hid hby
  have Hm := hid hm
  have hlt := lt_of_block h.1
  have HVB := hid (show l ≠ [] → v.ownBlock ≠ some w.heap.size from fun hne e => by have := h.2.1.lt hne _ e; omega)
  have HR1 := hid (h.alloc (.cells #[.int .u64 0, .int .u64 0] 59))
  have hres : Try.f32.results = #[.cell 2 59, .tmp 3] := rfl
  unfold rpair at hq
  clear h hby hm
  split at hq
  · cases hq
  · rename_i a r1 h1
    have HN := hid h1
    have HS := hid (rnum_shorter Hby.out h1)
    have HNE := hid (show l ≠ [] by intro e; subst e; simp [rnum] at h1)
    split at hq
    · cases hq
    · rename_i b r2 h2
      cases hq
      have HN2 := hid h2
      clear h1 h2
      go_enter Try.func32, Try.ntmps32
      go_wp2_with fail
      refine (rNumber_yes _ rb v l a r1 HR1.out Hby.out (by have := Hm.out; omega) HN.out).mono ?_
      rintro en w1 ⟨rfl, hg1, v1, hr1, ho1⟩
      have HR2 := hid hr1
      have HO := hid ho1
      have HG := hid hg1
      clear hg1 hr1 ho1
      go_wp2_with fail
      refine (rNumber_yes w1 rb v1 r1 b r HR2.out HS.out.2 (by have := Hm.out; have := HS.out.1; omega) HN2.out).mono ?_
      rintro en w2 ⟨rfl, hg2, v2, hr2, ho2⟩
      have HG2 := hid (grownBy_trans HG.out hg2)
      have HR3 := hid hr2
      have HO2 := hid (ho2.trans HO.out)
      have kb : w2.heap[w.heap.size]? = some (.cells #[.int .u64 0, .int .u64 0] 59 (0, 0)) := (HG2.out.block w.heap.size (by simp) (by simp; omega)).trans (heap_alloc_new w _)
      have c0 := cell_two0 kb
      have c1 := cell_two1 kb
      have f0 := free_two (i := 0) kb
      have f1 := free_two (i := 1) kb
      clear hg2 hr2 ho2
      go_wp2
      have kz := two_set (x := .int .u64 a) (y := .int .u64 b) kb
      have z0 := cell_two0 kz
      have z1 := cell_two1 kz
      refine bodyPost_ret (v := .tuple #[.agg #[.int .u64 a, .int .u64 b], .int .i64 0]) (by simp [results, hres, go_sem, z0, z1]) rfl ⟨grown_two HG2.out, rfl, v2, rd_set_new (rd_set_new HR3.out (by omega) (fun _ => by rw [HO2.out]; exact HVB.out HNE.out)) (by omega) (fun _ => by rw [HO2.out]; exact HVB.out HNE.out), HO2.out⟩

abbrev up (ps : List (Nat × Nat)) : List Value := ps.flatMap fun p => [Value.int .u64 (p.1 : Int), Value.int .u64 (p.2 : Int)]

/-- Behind some that were read. -/
def joinp (xs : List (Nat × Nat)) (o : Option (List (Nat × Nat) × List Int)) : Option (List (Nat × Nat) × List Int) := match o with
  | none => none
  | some (ys, r) => some (xs ++ ys, r)
theorem joinp_nil (o : Option (List (Nat × Nat) × List Int)) : joinp [] o = o := by cases o <;> rfl
theorem joinp_step {xs : List (Nat × Nat)} {m : Nat} {l r : List Int} {x : Nat × Nat} (h : rpair l = some (x, r)) : joinp xs (rplist (m + 1) l) = joinp (xs ++ [x]) (rplist m r) := by
  rw [rplist, h]
  cases hr : rplist m r with
  | none => simp [joinp, hr]
  | some p => simp [joinp, hr]
theorem joinp_none {xs : List (Nat × Nat)} {m : Nat} {l : List Int} (h : rpair l = none) : joinp xs (rplist (m + 1) l) = none := by rw [rplist, h]; rfl
/-- What a reading of a list leaves: its end, the rest. -/
def TookP (q : Except Int (List (Nat × Nat) × List Int)) (base : Nat) (w' : World) (r2 : List Int) (en : Ending) : Prop := match q with
  | .error e => en = .returned (.tuple #[.slice none 0 0, .int .i64 e]) ∧ e ≠ 0
  | .ok (xs, r) => r2 = r ∧ ∃ v', en = .returned (.tuple #[v', .int .i64 0]) ∧ w'.ownsRow base 59 2 v' xs.length (up xs)
theorem tookP_err {q : Except Int (List (Nat × Nat) × List Int)} {base : Nat} {w' : World} {r2 : List Int} {e : Int} (h : q = .error e) (hne : e ≠ 0) : TookP q base w' r2 (.returned (.tuple #[.slice none 0 0, .int .i64 e])) := by
  subst h; exact ⟨rfl, hne⟩
theorem tookP_ok {q : Except Int (List (Nat × Nat) × List Int)} {base : Nat} {w' : World} {xs : List (Nat × Nat)} {r : List Int} {v' : Value} (h : q = .ok (xs, r)) (ho : w'.ownsRow base 59 2 v' xs.length (up xs)) : TookP q base w' r (.returned (.tuple #[v', .int .i64 0])) := by
  subst h; exact ⟨rfl, v', rfl, ho⟩
theorem cell_two_new (w : World) (a b : Value) (t : TypeId) : ∀ j u, [a, b][j]? = some u → (w.alloc (.cells #[a, b] t)).cell? ((⟨w.heap.size, 0, none⟩ : Addr).add j) = some u := by
  intro j u hu
  have h := heap_alloc_new w (.cells #[a, b] t (0, 0))
  rw [Addr.add_lit]
  match j, hu with
  | 0, hu => simp at hu; subst hu; exact cell_two0 h
  | 1, hu => simp at hu; subst hu; exact cell_two1 h
theorem cell_two_new1 (w : World) (o : Obj) (a b : Value) (t : TypeId) : ∀ j u, [a, b][j]? = some u → ((w.alloc o).alloc (.cells #[a, b] t)).cell? ((⟨w.heap.size + 1, 0, none⟩ : Addr).add j) = some u := by
  have h := cell_two_new (w.alloc o) a b t
  rw [show (w.alloc o).heap.size = w.heap.size + 1 by simp] at h
  exact h
theorem two_one (a b : Int) : ∀ u ∈ [Value.int .u64 a, Value.int .u64 b], u.oneCell' = true := by
  intro u hu
  simp at hu
  rcases hu with rfl | rfl <;> rfl
theorem Try.info59 : (Try.prog.info? 59).map (fun i => (i.zero, i.size, i.bytes)) = some (some (.agg #[.int .u64 0, .int .u64 0]), 2, 16) := by kernel_rfl

set_option maxRecDepth 100000 in
set_option maxHeartbeats 1000000 in
theorem thingsP_any (w : World) (rb : Nat) (v : Value) (l : List Int) (most : Int) (h : Rd w rb v l) (hby : Byt l) (hm : l.length ≤ 200000000000000) (hmo : most ≤ 8796093022000) :
    Calls Try.prog 57 #[.pointer (some ⟨rb, 0, none⟩), .int .i64 most, .func (.func 32) #[] #[]] w fun en w' => w.grownBy w' (some rb) ∧ ∃ v2 r2, Rd w' rb v2 r2 ∧ v2.ownBlock = v.ownBlock ∧
      TookP (rptake most l) w.heap.size w' r2 en := by
  have hrb := lt_of_block h.1
  have HVB := hid (show 0 < l.length → ∀ k, v.ownBlock = some k → k < w.heap.size from fun hp k e => h.2.1.lt (by intro e; subst e; simp at hp) k e)
  obtain ⟨i0, hi, hz0, hz1, hz2⟩ := info_parts Try.info59
  have H := hid h
  have Hby := hid hby
  have Hm := hid hm
  clear h hby hm
  cases hc : rcnt most l with
  | error e =>
    have he : rptake most l = .error e := by unfold rptake; rw [hc]
    have hne : e ≠ 0 := by
      unfold rcnt at hc
      split at hc
      · cases hc; decide
      · split at hc
        · cases hc; decide
        · split at hc
          · cases hc; decide
          · cases hc
    have HE := hid he
    have HC := hid hc
    have hne' : (e != 0) = true := by simp [bne, hne]
    have HNE := hid hne
    clear hc he hne
    go_enter Try.func57, Try.ntmps57
    go_wp2_with fail
    refine (count_err w rb v l most e H.out Hby.out (by have := Hm.out; omega) (by omega) HC.out).mono ?_
    rintro en w1 ⟨rfl, hg1, v1, l1, hr1, ho1⟩
    have HG := hid hg1
    have HR := hid hr1
    have HB := hid ho1
    clear hg1 hr1 ho1
    go_wp2
    go_ret2
    exact ⟨HG.out, v1, l1, HR.out, HB.out, tookP_err HE.out HNE.out⟩
  | ok p =>
    obtain ⟨n, r0⟩ := p
    have HC := hid hc
    obtain ⟨hm0, hnm, hn⟩ := rcnt_ok hc
    have HT := hid (show rptake most l = match rplist n r0 with | none => .error 4 | some p => .ok p by unfold rptake; rw [hc]; rfl)
    have hsh := rnum_shorter Hby.out hn
    have HS := hid hsh
    have hnb : (n : Int) ≤ 8796093022000 := by omega
    clear hc hn hsh
    go_enter Try.func57, Try.ntmps57
    go_wp2_with fail
    refine (count_ok w rb v l most n r0 H.out Hby.out (by have := Hm.out; omega) (by omega) HC.out).mono ?_
    rintro en w1 ⟨rfl, hg1, v1, hr1, ho1⟩
    have HG := hid hg1
    have HR := hid hr1
    have HB := hid ho1
    clear hg1 hr1 ho1
    go_wp2
    go_loopw [10, 23] (fun lv i wr => ∃ (k : Nat) (xs : List (Nat × Nat)) (lk : List Int) (vk : Value) (ao : Option Addr) (cp : Nat), k ≤ n ∧ i = .int .u64 k ∧ lv = .slice ao k cp ∧ Hid (wr.ownsRow w.heap.size 59 2 (.slice ao k cp) k (up xs) ∧ xs.length = k) ∧ Hid (Rd wr rb vk lk ∧ vk.ownBlock = v.ownBlock ∧ Byt lk ∧ k + lk.length ≤ r0.length) ∧ Hid (rplist n r0 = joinp xs (rplist (n - k) lk)) ∧ Hid (w.grownBy wr (some rb)))
      (fun _ i _ => n - (intOf i).toNat)
    case atStart => exact ⟨0, [], r0, v1, none, 0, Nat.zero_le _, rfl, rfl, ⟨World.ownsRow_nil _ _ _ _, rfl⟩, ⟨HR.out, HB.out, HS.out.2, by omega⟩, (joinp_nil _).symm, HG.out⟩
    case round =>
      obtain ⟨k, xs, lk, vk, ao, cp, hk, rfl, rfl, hO, hR, hJ, hG⟩ := hrel
      by_cases hlt : k < n
      · have hlt' : (k : Int) < (n : Int) := by omega
        cases hx : rpair lk with
        | none =>
          have HX := hid hx
          clear hx
          go_wp2_with fail
          refine (pair_no wr rb vk lk hR.out.1 hR.out.2.2.1 (by have := hR.out.2.2.2; have := HS.out.1; have := Hm.out; omega) HX.out).mono ?_
          rintro en w2 ⟨hg2, x, y, v2, r2, rfl, hr2, ho2⟩
          have HG2 := hid (grownBy_trans hG.out hg2)
          have HR2 := hid hr2
          have HO2 := hid (ho2.trans hR.out.2.1)
          clear hg2 hr2 ho2
          go_wp2
          go_ret2
          have hne : rplist n r0 = none := by rw [hJ.out, show n - k = (n - k - 1) + 1 by omega]; exact joinp_none HX.out
          exact ⟨grownBy_trans HG2.out (grownBy_mono (World.grownBy_alloc _ _ none)), v2, r2, HR2.out.alloc _, HO2.out, tookP_err (by rw [HT.out, hne]) (by decide)⟩
        | some p =>
          obtain ⟨x, r⟩ := p
          have HX := hid hx
          have HSX := hid (And.intro (rpair_ext (s := []) hR.out.2.2.1 hx).2.2 (rpair_ext (s := []) hR.out.2.2.1 hx).2.1)
          clear hx
          go_wp2_with fail
          refine (pair_yes wr rb vk lk x r hR.out.1 hR.out.2.2.1 (by have := hR.out.2.2.2; have := HS.out.1; have := Hm.out; omega) HX.out).mono ?_
          rintro en w2 ⟨hg2, rfl, v2, hr2, ho2⟩
          have HO2 := hid (owns_keep hO.out.1 hg2 hrb)
          have HXL := hid hO.out.2
          have HG2 := hid (grownBy_trans hG.out hg2)
          have HR2 := hid hr2
          have HB2 := hid (ho2.trans hR.out.2.1)
          have hlk := hR.out.2.2.2
          have hsz2 := HG2.out.size
          clear hg2 hr2 ho2
          have hkb : k < 8796093022000 := by omega
          go_wp2_with (at_builtin; refine wpList_append_own _ rfl _ _ 58 rfl w.heap.size 59 i0 (.agg #[.int .u64 0, .int .u64 0]) 2 16 Try.underlying58 hi hz0 hz1 hz2 rfl (by decide) _ k (up xs) rfl ((HO2.out.alloc _).alloc _) ⟨w2.heap.size + 1, 0, none⟩ 1 1 [.int .u64 (x.1 : Int), .int .u64 (x.2 : Int)] rfl rfl (cell_two_new1 _ _ _ _ _) (two_one _ _) (by unfold maxLen; omega) (by omega) (by simp; omega) ?_; intro v' w3 hown' hgrow hiff; clear hiff)
          have HO3 := hid hown'
          have G3 := hid (grown_own (grownBy_trans HG2.out (grownBy_mono (World.grownBy_alloc _ _ none))) (HO2.out.alloc _) hgrow)
          obtain ⟨ao', cp', rfl⟩ := owns_shape hown'
          have HR3 := hid (rd_keep_own (HR2.out.alloc _) (HO2.out.alloc _) hgrow hrb (fun hne j e => HVB.out (by have := HS.out.1; omega) j (HB2.out ▸ e)))
          clear hown' hgrow
          go_wp2
          go_roundw
          case rel =>
            refine ⟨k + 1, xs ++ [x], r, v2, ao', cp', by omega, by go_num, rfl, ⟨?_, by simp [HXL.out]⟩, ⟨HR3.out, HB2.out, HSX.out.2, by have := HSX.out.1; omega⟩, ?_, G3.out⟩
            · have := HO3.out
              simpa [up] using this
            · rw [hJ.out, show n - k = (n - (k + 1)) + 1 by omega]
              exact joinp_step HX.out
          case measure => simp [intOf]; omega
      · have hlt' : ¬ (k : Int) < (n : Int) := by omega
        have hkn := hid (show k = n by omega)
        go_wp2
        go_ret2
        have hs : rplist n r0 = some (xs, lk) := by rw [hJ.out, hkn.out, Nat.sub_self, rplist]; simp [joinp]
        exact ⟨hG.out, vk, lk, hR.out.1, hR.out.2.1, tookP_ok (by rw [HT.out, hs]) (by have := hO.out; rw [this.2]; exact this.1)⟩

/-- Take: all of the list, or nothing, and then the reader is as it was. -/
def TookP2 (q : Except Int (List (Nat × Nat) × List Int)) (base rb : Nat) (v : Value) (l : List Int) (w' : World) (en : Ending) : Prop := match q with
  | .error e => en = .returned (.tuple #[.slice none 0 0, .int .i64 e]) ∧ Rd w' rb v l
  | .ok (xs, r) => (∃ v', en = .returned (.tuple #[v', .int .i64 0]) ∧ w'.ownsRow base 59 2 v' xs.length (up xs)) ∧ ∃ v2, Rd w' rb v2 r ∧ v2.ownBlock = v.ownBlock

set_option maxRecDepth 100000 in
set_option maxHeartbeats 1000000 in
theorem takeP_any (w : World) (rb : Nat) (v : Value) (l : List Int) (most : Int) (h : Rd w rb v l) (hby : Byt l) (hm : l.length ≤ 200000000000000) (hmo : most ≤ 8796093022000) :
    Calls Try.prog 31 #[.pointer (some ⟨rb, 0, none⟩), .int .i64 most, .func (.func 32) #[] #[]] w fun en w' => w.grownBy w' (some rb) ∧ TookP2 (rptake most l) w.heap.size rb v l w' en := by
  have hfn : ∀ w : World, (binOp .eql 64 (.func (.func 32) #[] #[]) .nilFunc).run Try.prog w = .ok (.bool false) w := fun _ => by kernel_rfl
  obtain ⟨ao, cap, rfl⟩ := h.shape
  have H := hid h
  have Hby := hid hby
  have Hm := hid hm
  have hc0 := cell_two0 h.1
  have hc1 := cell_two1 h.1
  have hf0 := free_two (i := 0) h.1
  have hf1 := free_two (i := 1) h.1
  have hlt := lt_of_block h.1
  clear h hby hm
  go_enter Try.func31, Try.ntmps31
  go_wp2_with (first | (go_at_call 45; go_in) | (go_at_call 55; go_in) | (go_at_call 56; go_in))
  refine (thingsP_any _ rb _ l most (((H.out.alloc _).alloc _).alloc _) Hby.out Hm.out hmo).mono ?_
  rintro en w1 ⟨hg1, v1, r1, hr1, ho1, htk⟩
  cases hq : rptake most l with
  | error e =>
    rw [hq] at htk
    obtain ⟨rfl, hne⟩ := htk
    have k0 := cell_two0 hr1.1
    have k1 := cell_two1 hr1.1
    have k2 := free_two (i := 0) hr1.1
    have k3 := free_two (i := 1) hr1.1
    have k4 : w1.heap[w.heap.size + 1 + 1]? = some (.cells #[.slice ao l.length cap, .bool true] 73 (0, 0)) := by
      have := kept_two hg1 (by simp; omega)
      simpa using this
    have k5 := cell_two0 k4
    have k6 := cell_two1 k4
    have k7 : (e != 0) = true := by simp [bne, hne]
    have HR := hid hr1
    have HG := hid hg1
    have HQ := hid hq
    clear hr1 hg1 k4 hne hq ho1
    go_wp2
    go_ret2
    refine ⟨grownBy_trans (grownBy_mono (grownBy_trans (World.grownBy_alloc w _ none) (World.grownBy_alloc _ _ none))) (grown_back HG.out), ?_⟩
    rw [HQ.out]
    exact ⟨rfl, rd_back ((H.out.alloc _).alloc _) HG.out HR.out⟩
  | ok p =>
    obtain ⟨xs, r⟩ := p
    rw [hq] at htk
    obtain ⟨rfl, v', rfl, hown⟩ := htk
    obtain ⟨ao', cp', rfl⟩ := owns_shape hown
    have HO := hid hown
    have HR := hid hr1
    have HG := hid hg1
    have HB := hid ho1
    have HQ := hid hq
    clear hr1 hg1 ho1 hown hq
    go_wp2
    go_ret2
    refine ⟨grownBy_trans (grownBy_mono (grownBy_trans (grownBy_trans (World.grownBy_alloc w _ none) (World.grownBy_alloc _ _ none)) (World.grownBy_alloc _ _ none))) HG.out, ?_⟩
    rw [HQ.out]
    exact ⟨⟨_, rfl, owns_base HO.out (by simp; omega)⟩, v1, HR.out, HB.out⟩
end Go.Proofs.Ytnnjfhgdimcieaa
