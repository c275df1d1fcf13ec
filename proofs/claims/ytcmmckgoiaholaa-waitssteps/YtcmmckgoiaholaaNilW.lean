/- WaitsNil's walk. -/
import Derived.Test.YtcmmckgoiaholaaNoth
namespace Go.Proofs.Ytcmmckgoiaholaa
open Go.RowKit Go.Shelf Go.Lib Go.Sort Go.Maps

/-- Two lists, apart, both made behind w0. -/
def Tw (w0 W : World) (b1 : Nat) (L1 : List Dl) (b2 : Nat) (L2 : List Dl) : Prop := ∃ p1 V1 p2 V2, Wt W b1 p1 V1 L1 ∧ Wt W b2 p2 V2 L2 ∧ (∀ k ∈ rows b1 p1 V1, k ∉ rows b2 p2 V2 ∧ w0.heap.size ≤ k) ∧ (∀ k ∈ rows b2 p2 V2, w0.heap.size ≤ k) ∧ Kp w0 W []
theorem Tw.swap {w0 W : World} {b1 b2 : Nat} {L1 L2 : List Dl} (h : Tw w0 W b1 L1 b2 L2) : Tw w0 W b2 L2 b1 L1 := by
  obtain ⟨p1, V1, p2, V2, h1, h2, h3, h4, h5⟩ := h
  exact ⟨p2, V2, p1, V1, h2, h1, fun k hk => ⟨fun hm => (h3 k hm).1 hk, h4 k hk⟩, fun k hk => (h3 k hk).2, h5⟩
theorem turn_rows {W : World} {wb pb : Nat} {V V' : Value} (h2 : ∀ g, V'.ownBlock = some g → V.ownBlock = some g ∨ W.heap.size ≤ g) {k : Nat} (hk : k ∈ rows wb pb V') : k ∈ rows wb pb V ∨ W.heap.size ≤ k := by
  simp only [rows, List.mem_cons, Option.mem_toList] at hk ⊢
  rcases hk with e | e | e
  · exact .inl (.inl e)
  · exact .inl (.inr (.inl e))
  · exact (h2 k e).imp (fun q => .inr (.inr q)) id
theorem Tw.put {w0 W : World} {b1 b2 : Nat} {L1 L2 : List Dl} (h : Tw w0 W b1 L1 b2 L2) (t p : Int) : Calls Try.prog 14 #[.pointer (some ⟨b1, 0, none⟩), .int .i64 t, .int .i64 p] W fun e w' => e = .returned (.int .i64 (putE L1 t p)) ∧ Tw w0 w' b1 (putL L1 t p) b2 L2 := by
  obtain ⟨p1, V1, p2, V2, h1, h2, h3, h4, h5⟩ := h
  refine (put_any W b1 p1 V1 L1 t p h1).mono ?_
  rintro e w' ⟨rfl, V', c1, c2, c3⟩
  have hsz := h5.size
  refine ⟨rfl, p1, V', p2, V2, c1, h2.keep c3 (fun k hk hm => (h3 k hm).1 hk), fun k hk => ?_, h4, h5.past c3 (fun k hk hl => by have := (h3 k hk).2; omega)⟩
  rcases turn_rows c2 hk with q | q
  · exact h3 k q
  · exact ⟨fun hm => by have := h2.rowslt hm; omega, by omega⟩
def nilL (i : Nat) : List Dl := (List.range i).map fun (t : Nat) => ((t : Int), 1 + ((t % 2 : Nat) : Int) * 30)
theorem nil_step : ∀ i : Nat, i < 16 → putE (nilL i) i (1 + ((i % 2 : Nat) : Int) * 30) = 0 ∧ putL (nilL i) i (1 + ((i % 2 : Nat) : Int) * 30) = nilL (i + 1) := by decide +kernel
theorem nil_keys : (ordL (nilL 16)).map (·.1) = [1, 3, 5, 7, 9, 11, 13, 15, 0, 2, 4, 6, 8, 10, 12, 14] := keys_eq _ _ (by decide +kernel)
set_option maxRecDepth 100000 in
set_option maxHeartbeats 4000000 in
theorem nil_walk (w : World) : Calls Try.prog 6 #[] w fun e w' => e = .returned (.bool true) ∧ Kp w w' [] := by
  go_enter Try.func6, Try.ntmps6
  go_wp2_with fail
  refine (li_new w).mono ?_
  rintro e w1 ⟨b, rfl, hl⟩
  have H := hid hl
  clear hl
  go_wp2_with fail
  go_loopw [2] (fun v wr => ∃ i : Nat, i ≤ 16 ∧ v = .int .i64 i ∧ Hid (Li w wr b (nilL i) [])) (fun v _ => 16 - (intOf v).toNat)
  case atStart => exact ⟨0, by omega, rfl, H⟩
  case round =>
    obtain ⟨i, hi, rfl, hR⟩ := hrel
    by_cases hlt : i < 16
    · have hltI : (i : Int) < 16 := by omega
      obtain ⟨r, hr⟩ : ∃ r, i % 2 = r := ⟨_, rfl⟩
      have hr2 : r < 2 := by omega
      have hS := nil_step i hlt
      rw [hr] at hS
      have HS := hid hS
      have ht : (i : Int).tmod 2 = (r : Int) := by rw [← hr]; simp [Int.tmod]
      have ht2 : (i : Int) % 2 = (r : Int) := by omega
      have hw1 : IntKind.i64.wrap ((r : Int) * 30) = (r : Int) * 30 := IntWalk.i64_in _ ⟨by omega, by omega⟩
      have hw2 : IntKind.i64.wrap (1 + (r : Int) * 30) = 1 + (r : Int) * 30 := IntWalk.i64_in _ ⟨by omega, by omega⟩
      clear hS hr
      go_wp2_with fail
      refine (hR.out.put i (1 + (r : Int) * 30)).mono ?_
      rintro e w2 ⟨rfl, hl⟩
      rw [HS.out.1]
      rw [HS.out.2] at hl
      have H2 := hid hl
      clear hl
      go_wp2_with (go_at_call 13; go_in)
      go_roundw
      case rel => exact ⟨i + 1, by omega, by simp, H2⟩
      case measure => simp [intOf]; omega
    · have hltI : ¬ (i : Int) < 16 := by omega
      have H1 := hid (show Li w wr b (nilL 16) [] by have := hR.out; rw [show i = 16 by omega] at this; exact this)
      clear hR
      go_wp2_with fail
      refine (H1.out.put 3 3).mono ?_
      rintro e w2 ⟨rfl, hl⟩
      rw [show putE (nilL 16) 3 3 = 7 from by decide +kernel]
      rw [show putL (nilL 16) 3 3 = nilL 16 from by decide +kernel] at hl
      have H2 := hid hl
      clear hl
      go_wp2_with fail
      refine (H2.out.chg 3 0).mono ?_
      rintro e w3 ⟨rfl, hl⟩
      rw [show chgE (nilL 16) 3 0 = 2 from by decide +kernel]
      rw [show chgL (nilL 16) 3 0 = nilL 16 from by decide +kernel] at hl
      have H3 := hid hl
      clear hl
      go_wp2_with fail
      refine (H3.out.chg 16 1).mono ?_
      rintro e w4 ⟨rfl, hl⟩
      rw [show chgE (nilL 16) 16 1 = 2 from by decide +kernel]
      rw [show chgL (nilL 16) 16 1 = nilL 16 from by decide +kernel] at hl
      have H4 := hid hl
      clear hl
      go_wp2_with fail
      refine (H4.out.lv (-1)).mono ?_
      rintro e w5 ⟨rfl, hl⟩
      rw [show lvE (nilL 16) (-1) = 2 from by decide +kernel]
      rw [show lvL (nilL 16) (-1) = nilL 16 from by decide +kernel] at hl
      have H5 := hid hl
      clear hl H1 H2 H3 H4
      go_wp2_with fail
      refine (new_any _).mono ?_
      rintro e w6 ⟨xb, pb, rfl, hx, hx1, hx2, hxk⟩
      have X6 := hid (And.intro hx (And.intro hx1 (And.intro hx2 hxk)))
      clear hx hx1 hx2 hxk
      go_wp2_with fail
      refine (new_any _).mono ?_
      rintro e w7 ⟨yb, qb, rfl, hy, hy1, hy2, hyk⟩
      have T7 := hid (show Tw w5 w7 xb [] yb [] by
        obtain ⟨hx, hx1, hx2, hxk⟩ := X6.out
        have hl := hx.lt
        have hs := hxk.size
        exact ⟨pb, _, qb, _, hx.same hyk, hy, fun k hk => by simp [rows, Value.ownBlock] at hk ⊢; omega, fun k hk => by simp [rows, Value.ownBlock] at hk; omega, hxk.trans hyk⟩)
      clear hy hy1 hy2 hyk X6
      go_wp2_with fail
      refine (T7.out.put 1 5).mono ?_
      rintro e w8 ⟨rfl, hl⟩
      rw [show putL [] 1 5 = [(1, 5)] from by decide +kernel] at hl
      have T8 := hid hl
      clear hl T7
      go_wp2_with fail
      refine (T8.out.put 2 9).mono ?_
      rintro e w9 ⟨rfl, hl⟩
      rw [show putL [(1, 5)] 2 9 = [(1, 5), (2, 9)] from by decide +kernel] at hl
      have T9 := hid hl.swap
      clear hl T8
      go_wp2_with fail
      refine (T9.out.put 2 9).mono ?_
      rintro e w10 ⟨rfl, hl⟩
      rw [show putL [] 2 9 = [(2, 9)] from by decide +kernel] at hl
      have T10 := hid hl
      clear hl T9
      go_wp2_with fail
      refine (T10.out.put 1 5).mono ?_
      rintro e w11 ⟨rfl, hl⟩
      rw [show putL [(2, 9)] 1 5 = [(2, 9), (1, 5)] from by decide +kernel] at hl
      have T11 := hid hl.swap
      clear hl T10
      go_wp2_with fail
      obtain ⟨p1, V1, p2, V2, t1, t2, -, -, t5⟩ := T11.out
      refine (same_any w11 xb p1 yb p2 V1 V2 _ _ t1 t2).mono ?_
      rintro e w12 ⟨rfl, hk⟩
      rw [show decide (([(1, 5), (2, 9)] : List Dl) = [(2, 9), (1, 5)]) = false from by decide +kernel]
      have H12 := hid (H5.out.same (t5.trans hk))
      clear t1 t2 t5 hk T11 H5
      go_wp2_with fail
      refine (H12.out.clear).mono ?_
      rintro e w13 ⟨v, rfl, hl⟩
      rw [nil_keys] at hl
      have hn := hl.ns (x := (v, [1, 3, 5, 7, 9, 11, 13, 15, 0, 2, 4, 6, 8, 10, 12, 14])) (by simp)
      obtain ⟨ao, cap, hv⟩ := hn.slice
      simp only at hv
      rw [show ([1, 3, 5, 7, 9, 11, 13, 15, 0, 2, 4, 6, 8, 10, 12, 14] : List Int).length = 16 from rfl] at hv
      subst hv
      obtain ⟨g, hao, c0, -⟩ := hn.at (k := 0) (x := 1) (by simp) rfl
      obtain ⟨g', hao', c8, -⟩ := hn.at (k := 8) (x := 0) (by simp) rfl
      subst hao
      simp only [Option.some.injEq, Addr.mk.injEq, and_true] at hao'
      subst hao'
      have H13 := hid hl
      clear hl hn
      go_wp2_with (go_at_call 13; go_in)
      refine (H13.out.len).mono ?_
      rintro e w14 ⟨rfl, hw⟩
      rw [show ((([] : List Dl).length : Nat) : Int) = 0 from rfl]
      have H14 := hid (show Li w w14 b [] _ by rw [hw]; exact H13.out)
      clear hw c0 c8
      go_wp2_with fail
      refine (nothing_any _ none (.inl rfl)).mono ?_
      rintro e w15 ⟨rfl, hk⟩
      have H15 := hid (H14.out.same hk)
      clear hk H13 H14
      go_wp2_with fail
      have ka := Kp.alloc w15 (.cells #[.map none, .slice none 0 0] 55) []
      refine (nothing_any _ _ (.inr ⟨w15.heap.size, .slice none 0 0, rfl, heap_alloc_new w15 _⟩)).mono ?_
      rintro e w16 ⟨rfl, hk⟩
      have H16 := hid (H15.out.same (ka.trans hk))
      clear hk ka H15
      go_wp2_with fail
      obtain ⟨pb9, V9, h9, -⟩ := H16.out
      refine (same_zero _ b pb9 V9 [] none h9 (.inl rfl)).mono ?_
      rintro e w17 ⟨rfl, hw⟩
      have H17 := hid (show Kp w w17 [] by rw [hw]; exact H16.out.kp)
      clear hw h9 H16
      go_wp2_with fail
      refine (known_any _).mono ?_
      rintro e w18 ⟨rfl, hk⟩
      have H18 := hid (H17.out.trans hk)
      clear hk H17
      go_wp2
      go_ret
      exact ⟨rfl, H18.out⟩
end Go.Proofs.Ytcmmckgoiaholaa
