/- The document's own arena: Read, Write. -/
import Derived.Test.YtihlejphjdelfaaRefSet
namespace Go.Proofs.Ytihlejphjdelfaa
open Go.RowKit
set_option linter.unusedVariables false

theorem keep2 {w w' : World} {rows : List Nat} {a b i j : Nat} {u v : Value} (h : w.cell? ⟨a, i, none⟩ = some u ∧ w.cell? ⟨b, j, none⟩ = some v) (hk : Kp w w' rows) (hn : a ∉ rows ∧ b ∉ rows) :
    w'.cell? ⟨a, i, none⟩ = some u ∧ w'.cell? ⟨b, j, none⟩ = some v := ⟨hk.cell h.1 hn.1, hk.cell h.2 hn.2⟩
theorem Bs.kept' {w w' : World} {v : Value} {l : List Int} (h : Bs w v l) {rows : List Nat} (hk : Kp w w' rows) (hb : l ≠ [] → ∀ k, v.ownBlock = some k → k ∉ rows) : Bs w' v l := by
  by_cases hne : l = []
  · subst hne
    obtain ⟨ao, cap, rfl, hl, hn, hc⟩ := h
    exact ⟨ao, cap, rfl, hl, hn, fun h => absurd rfl h⟩
  · exact h.keep fun k e => hk.block k (h.lt hne k e) (hb hne k e)
theorem Rf.row {w : World} {rb mb n : Nat} {f : Nat → Int} {c : Int} (h : Rf w rb mb n f c) {o m : Nat} (hfit : o + m ≤ n) (a k : Nat) (hk : m ≤ k) (ha : 0 < m → a = o) :
    Bs w (.slice (some ⟨mb, a, none⟩) (part f o m).length k) (part f o m) := by
  obtain ⟨cap, cur, hr, hm, a1, a2, a3, a4⟩ := h
  exact ar_part hm a4 hfit a k hk ha

set_option maxRecDepth 100000 in
theorem rread_no (w : World) (rb mb n : Nat) (f : Nat → Int) (c o m : Int) (h : Rf w rb mb n f c) (hn : n ≤ 65536) (h4 : o ≤ 9223372036854775807) (hb : hasB n o m = false) :
    Calls Try.prog 26 #[.pointer (some ⟨rb, 0, none⟩), .int .i64 o, .int .i64 m] w fun e w' => e = .returned (.tuple #[.slice none 0 0, .int .i64 2]) ∧ w' = w := by
  have hno : ¬ (0 ≤ o ∧ 0 ≤ m ∧ m ≤ n - o) := of_decide_eq_false hb
  obtain ⟨cap, -, -, hr⟩ := h.head
  have hc0 := cell_two0 hr
  clear hr h hb
  by_cases h1 : o < 0
  · clear hno
    go_enter Try.func26, Try.ntmps26
    go_wp2
    go_ret2
    exact ⟨rfl, rfl⟩
  · by_cases h2 : m < 0
    · clear hno
      go_enter Try.func26, Try.ntmps26
      go_wp2
      go_ret2
      exact ⟨rfl, rfl⟩
    · by_cases h3 : (n : Int) < o
      · clear hno
        go_enter Try.func26, Try.ntmps26
        go_wp2
        go_ret2
        exact ⟨rfl, rfl⟩
      · have h5 : (n : Int) - o < m := by omega
        clear hno
        go_enter Try.func26, Try.ntmps26
        go_wp2
        go_ret2
        exact ⟨rfl, rfl⟩
set_option maxRecDepth 100000 in
theorem rwrite_no (w : World) (rb mb n : Nat) (f : Nat → Int) (c o : Int) (bo : Option Addr) (m mc : Nat) (h : Rf w rb mb n f c) (hn : n ≤ 65536) (h4 : o ≤ 9223372036854775807) (hm : m ≤ 9223372036854775807) (hb : hasB n o m = false) :
    Calls Try.prog 27 #[.pointer (some ⟨rb, 0, none⟩), .int .i64 o, .slice bo m mc] w fun e w' => e = .returned (.int .i64 2) ∧ w' = w := by
  have hno : ¬ (0 ≤ o ∧ 0 ≤ (m : Int) ∧ (m : Int) ≤ n - o) := of_decide_eq_false hb
  obtain ⟨cap, -, -, hr⟩ := h.head
  have hc0 := cell_two0 hr
  clear hr h hb
  by_cases h1 : o < 0
  · clear hno
    go_enter Try.func27, Try.ntmps27
    go_wp2
    go_ret
    exact ⟨rfl, rfl⟩
  · by_cases h3 : (n : Int) < o
    · clear hno
      go_enter Try.func27, Try.ntmps27
      go_wp2
      go_ret
      exact ⟨rfl, rfl⟩
    · have h5 : (n : Int) - o < m := by omega
      clear hno
      go_enter Try.func27, Try.ntmps27
      go_wp2
      go_ret
      exact ⟨rfl, rfl⟩

set_option maxRecDepth 100000 in
set_option maxHeartbeats 1000000 in
theorem rread_ok (w : World) (rb mb n o m : Nat) (f : Nat → Int) (c : Int) (h : Rf w rb mb n f c) (hn : n ≤ 65536) (hfit : o + m ≤ n) :
    Calls Try.prog 26 #[.pointer (some ⟨rb, 0, none⟩), .int .i64 o, .int .i64 m] w fun e w' => ∃ v, e = .returned (.tuple #[v, .int .i64 0]) ∧ w'.ownsRow w.heap.size 5 1 v m (ub (part f o m)) ∧ Kp w w' [] := by
  obtain ⟨i0, hi, hz0, hz1, hz2⟩ := info_parts Try.info5
  obtain ⟨cap, hncap, hmax, hr⟩ := h.head
  have hc0 := cell_two0 hr
  have H := hid h
  clear hr h
  have HL := hid (show (ub (part f o m)).length = (o + m - o) * 1 by simp [ub, part_length])
  have HOM := hid (show o + m - o = m by omega)
  by_cases hoc' : cap = o
  · have hoc : (cap = o) = True := eq_true hoc'
    have HBS := hid (H.out.row hfit 0 (0) (by omega) (fun h => by omega))
    go_enter Try.func26, Try.ntmps26
    go_wp2_with (at_builtin; refine wpList_append_own _ rfl _ _ 36 rfl w.heap.size 5 i0 (.int .u8 0) 1 1 Try.underlying36 hi hz0 hz1 hz2 rfl (by decide) _ 0 [] rfl (World.ownsRow_nil _ _ _ _) ⟨mb, 0, none⟩ (o + m - o) (0) (ub (part f o m)) rfl HL.out (HBS.out.cells rfl fun k hk => rfl) (ub_one _) (by unfold maxLen; omega) (by omega) (by simp) ?_)
    intro v' w1 hown' hgrow _
    have HO := hid hown'
    have HG := hid hgrow
    clear hown' hgrow
    go_wp2
    go_ret2
    exact ⟨_, rfl, by have := HO.out; simpa [HOM.out] using this, Kp.grown HG.out⟩
  · have hoc : (cap = o) = False := eq_false hoc'
    have HBS := hid (H.out.row hfit o (cap - o) (by omega) (fun _ => rfl))
    clear hoc'
    go_enter Try.func26, Try.ntmps26
    go_wp2_with (at_builtin; refine wpList_append_own _ rfl _ _ 36 rfl w.heap.size 5 i0 (.int .u8 0) 1 1 Try.underlying36 hi hz0 hz1 hz2 rfl (by decide) _ 0 [] rfl (World.ownsRow_nil _ _ _ _) ⟨mb, o, none⟩ (o + m - o) (cap - o) (ub (part f o m)) rfl HL.out (HBS.out.cells rfl fun k hk => rfl) (ub_one _) (by unfold maxLen; omega) (by omega) (by simp) ?_)
    intro v' w1 hown' hgrow _
    have HO := hid hown'
    have HG := hid hgrow
    clear hown' hgrow
    go_wp2
    go_ret2
    exact ⟨_, rfl, by have := HO.out; simpa [HOM.out] using this, Kp.grown HG.out⟩

/-- The loop's bytes: the first k of l are laid. -/
theorem over_step (f : Nat → Int) (o k : Nat) (l : List Int) (hk : k < l.length) (i : Nat) : over f o (l.take (k + 1)) i = if i = o + k then l.getD k 0 else over f o (l.take k) i := by
  unfold over
  have h1 : (l.take (k + 1)).length = k + 1 := by simp; omega
  have h2 : (l.take k).length = k := by simp; omega
  rw [h1, h2]
  by_cases e : i = o + k
  · subst e
    rw [if_pos (by omega), if_pos rfl]
    simp
  · rw [if_neg e]
    by_cases h : o ≤ i ∧ i < o + k
    · rw [if_pos (by omega), if_pos h]
      simp only [List.getD_eq_getElem?_getD, List.getElem?_take]
      rw [if_pos (by omega), if_pos (by omega)]
    · rw [if_neg (by omega), if_neg h]
theorem over_nil (f : Nat → Int) (o : Nat) (i : Nat) : over f o [] i = f i := by unfold over; simp; omega

set_option maxRecDepth 100000 in
set_option maxHeartbeats 1000000 in
theorem rwrite_ok (w : World) (rb mb n o : Nat) (f : Nat → Int) (c : Int) (v : Value) (l : List Int) (h : Rf w rb mb n f c) (hn : n ≤ 65536) (hv : Bs w v l) (hby : Byt l) (hvm : l ≠ [] → v.ownBlock ≠ some mb) (hfit : o + l.length ≤ n) :
    Calls Try.prog 27 #[.pointer (some ⟨rb, 0, none⟩), .int .i64 o, v] w fun e w' => e = .returned (.int .i64 0) ∧ Rf w' rb mb n (over f o l) c ∧ Kp w w' [mb] := by
  have HV := hid hv
  have HY := hid hby
  obtain ⟨bo, mc, rfl, -⟩ := bs_some hv
  obtain ⟨cap, hncap, hmax, hr⟩ := h.head
  have hc0 := cell_two0 hr
  have H := hid h
  have HN := hid hvm
  have hne := h.ne
  clear hr h hv hby hvm
  have hd1 : decide (n < o) = false := by simp; omega
  have hd2 : decide ((o : Int) < 0) = false := decide_eq_false (by omega)
  have hd3 : decide ((n : Int) - (o : Int) < (l.length : Int)) = false := by simp; omega
  go_enter Try.func27, Try.ntmps27
  go_wp2
  go_loopw [7] (fun i wr => ∃ k : Nat, k ≤ l.length ∧ i = .int .i64 k ∧ Hid (Rf wr rb mb n (over f o (l.take k)) c) ∧ Hid (Kp w wr [mb]))
    (fun i _ => l.length - (intOf i).toNat)
  case atStart => exact ⟨0, Nat.zero_le _, rfl, H.out.congr (fun i _ => by rw [List.take_zero]; exact over_nil f o i), Kp.refl _ _⟩
  case round =>
    obtain ⟨k, hk, rfl, hR, hK⟩ := hrel
    by_cases hlt : k < l.length
    · have hlt' : (k : Int) < (l.length : Int) := by omega
      have hne0 : l ≠ [] := by intro e; subst e; simp at hlt
      have hbs := HV.out.kept hK.out (fun j hj => by have := HN.out hne0; rw [hj] at this; simpa using this)
      obtain ⟨ao', cap', hv', hl', hn', hc'⟩ := hbs
      simp only [Value.slice.injEq, true_and] at hv'
      obtain ⟨rfl, rfl⟩ := hv'
      obtain ⟨b, off, rfl, hcell⟩ := hc' (by intro e; subst e; simp at hlt)
      have y0 := hcell k hlt
      have hyb := HY.out (l.getD k 0) (by rw [List.getD_eq_getElem?_getD, List.getElem?_eq_getElem hlt]; simp)
      obtain ⟨x, hx⟩ : ∃ x, x = l.getD k 0 := ⟨_, rfl⟩
      rw [← hx] at y0 hyb
      have z0 := (hR.out.cell (i := o + k) (by omega))
      obtain ⟨cap1, -, -, hr1⟩ := hR.out.head
      have q0 := cell_two0 hr1
      have HR := hR
      have HK := hK
      have hok : (o : Int) + (k : Int) < (n : Int) := by omega
      have hwr2 : IntKind.i64.wrap ((o : Int) + (k : Int)) = (o : Int) + (k : Int) := IntWalk.i64_in _ ⟨by omega, by omega⟩
      have htn : ((o : Int) + (k : Int)).toNat = o + k := by omega
      have hst := And.intro q0 y0
      have Hx := hid hx
      clear hx
      have hbm : b ≠ mb := by have := HN.out hne0; simpa [Value.ownBlock] using this
      clear q0 y0 hcell hc' hr1
      go_wp2_with fail
      go_region_held (fun w' => w'.cell? ⟨rb, 0, none⟩ = some (.slice (some ⟨mb, 0, none⟩) n cap1) ∧ w'.cell? ⟨b, off + k, none⟩ = some (.int .u8 x))
        (first
          | exact keep2 hst (Kp.drew _ []) (by simp)
          | exact keep2 hst ((Kp.drew _ [mb]).trans (Kp.setCell _ ⟨mb, o + k, none⟩ _)) (by simp; omega))
        (fail)
      go_wp2
      go_roundw
      case rel =>
        refine ⟨k + 1, by omega, by go_num, ?_, ?_⟩
        · have := (hR.out.put (o + k) x (by omega) hyb).keep (Kp.drew _ []) (by simp) (by simp)
          refine this.congr fun i hi => ?_
          rw [over_step f o k l hlt i, Hx.out]
        · exact (hK.out.trans (Kp.setCell _ ⟨mb, o + k, none⟩ _)).trans (Kp.drew _ _)
      case measure => simp [intOf]; omega
    · have hlt' : ¬ (k : Int) < (l.length : Int) := by omega
      obtain rfl : k = l.length := by omega
      have HRk := hid (show Rf wr rb mb n (over f o l) c by have := hR.out; rwa [List.take_length] at this)
      clear hlt' hlt
      have hlt' : ¬ (l.length : Int) < (l.length : Int) := by omega
      go_wp2
      go_ret
      exact ⟨rfl, HRk.out, hK.out⟩
end Go.Proofs.Ytihlejphjdelfaa
