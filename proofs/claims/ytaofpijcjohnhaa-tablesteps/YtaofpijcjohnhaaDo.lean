/- do: one step, of both. -/
import Derived.Test.YtaofpijcjohnhaaPush
import Derived.Test.YtaofpijcjohnhaaRefTwo
import Derived.Test.YtaofpijcjohnhaaZero
import Derived.Test.YtaofpijcjohnhaaArgs
import Derived.Laws.AppendOwnNone
namespace Go.Proofs.Ytaofpijcjohnhaa
open Go.RowKit

/-- A row of handles, laid anew. -/
theorem wpList_clone_i {ops : Array Oper} {rest : List Oper} {o : Oper} {a : Act} {W : World} {Q : Exit → Act → World → Prop} (hgd : o.guard = none) (s x : Operand)
    (ho : o.op = .call { callee := .builtin .append, args := #[s, x], argTypes := #[31, 31] }) (base b0 : Nat) (V : Value) (m : Nat) (l : List Int)
    (hs : a.eval s = .slice none 0 0) (hx : a.eval x = V) (hown : W.ownsRow b0 2 1 V m (gi l)) (hm : m ≤ 100000) (hb : base ≤ W.heap.size)
    (K : ∀ v' w', w'.ownsRow base 2 1 v' m (gi l) → W.grownBy w' none → wpList Try.prog ops Q rest (a.put o.dst v') w') : wpList Try.prog ops Q (o :: rest) a W := by
  obtain ⟨i0, hi, hz0, hz1, hz2⟩ := info_parts Try.infoI
  have hn : W.ownsRow base 2 1 (.slice none 0 0) 0 [] := ⟨rfl, .inl ⟨rfl, rfl⟩⟩
  rcases hown.2 with ⟨rfl, rfl⟩ | ⟨g, cap, cur, rfl, h1, h2, h3, h4, h5, h6⟩
  · refine wpList_append_own_none hgd s x 31 ho base 2 i0 1 Try.underlying31 hi _ 0 [] hs hn hx ?_
    have hl : l = [] := by have := hown.1; simpa [gi] using this
    subst hl
    exact K _ W hn (World.grownBy.refl _ _)
  · refine wpList_append_own _ hgd s x 31 ho base 2 i0 (.int .i64 0) 1 8 Try.underlying31 hi hz0 hz1 hz2 rfl (by decide) _ 0 [] hs hn ⟨g, 0, none⟩ m cap (gi l) hx hown.1 ?_ ?_ (by unfold maxLen; omega) (by omega) hb (fun v' w' a1 a2 _ => K v' w' (by simpa using a1) a2)
    · intro j u hu
      have hj : j < m := by
        have := (List.getElem?_eq_some_iff.1 hu).1
        have hl := hown.1
        omega
      rw [Addr.add_mid, Nat.zero_add, hown.cellAt j (by omega)]
      exact hu
    · intro u hu
      simp only [gi, List.mem_map] at hu
      obtain ⟨z, -, rfl⟩ := hu
      rfl

/-- Both tables, and what was answered. -/
structure Dv (w wr : World) (tb rb mb n : Nat) (s : Int) (T : Pl) (l : List Int) (ao : Option Addr) (cp m : Nat) : Prop where
  tt : Tt wr tb n T
  rt : Rt wr rb mb n T
  wf : ∀ i, n ≤ i → T i = (false, 0)
  gd : ∀ i, i < 16 → 0 ≤ (T i).2 ∧ (T i).2 ≤ s
  len : l.length = m
  ol : wr.ownsRow w.heap.size 2 1 (.slice ao m cp) m (gi l)
  nb : w.heap.size ≤ tb ∧ w.heap.size ≤ rb ∧ w.heap.size ≤ mb
  kp : Kp w wr []
section
variable {w wr w' : World} {tb rb mb n : Nat} {s s' : Int} {T : Pl} {l : List Int} {ao : Option Addr} {cp m : Nat}
theorem Dv.gd' (h : Dv w wr tb rb mb n s T l ao cp m) (hs : s ≤ 1000000) : Gd T := fun i hi => ⟨(h.gd i hi).1, Int.le_trans (h.gd i hi).2 hs⟩
theorem Dv.mono (h : Dv w wr tb rb mb n s T l ao cp m) (hs : s ≤ s') : Dv w wr tb rb mb n s' T l ao cp m :=
  ⟨h.tt, h.rt, h.wf, fun i hi => ⟨(h.gd i hi).1, Int.le_trans (h.gd i hi).2 hs⟩, h.len, h.ol, h.nb, h.kp⟩
theorem Dv.keep (h : Dv w wr tb rb mb n s T l ao cp m) (hk : Kp wr w' []) : Dv w w' tb rb mb n s T l ao cp m :=
  ⟨h.tt.keep hk (by simp), h.rt.keep hk (by simp) (by simp), h.wf, h.gd, h.len, owns_kp h.ol hk (by simp), h.nb, h.kp.trans hk⟩
theorem Dv.apart (h : Dv w wr tb rb mb n s T l ao cp m) : tb ≠ rb ∧ tb ≠ mb ∧ rb ≠ mb ∧ ∀ g, (Value.slice ao m cp).ownBlock = some g → g ≠ tb ∧ g ≠ rb ∧ g ≠ mb :=
  ⟨block_ne h.tt h.rt.hd (by decide), block_ne h.tt h.rt.bd (by decide), h.rt.ne, fun g hg => by
    obtain ⟨-, cur, hc⟩ := owns_block h.ol hg
    exact ⟨block_ne hc h.tt (by decide), block_ne hc h.rt.hd (by decide), block_ne hc h.rt.bd (by decide)⟩⟩
/-- Both have changed alike. -/
theorem Dv.turn (h : Dv w wr tb rb mb n s T l ao cp m) (hk : Kp wr w' [tb, mb]) {T' : Pl} (ht : Tt w' tb n T') (hr : Rt w' rb mb n T') (hw : ∀ i, n ≤ i → T' i = (false, 0)) (hg : ∀ i, i < 16 → 0 ≤ (T' i).2 ∧ (T' i).2 ≤ s') : Dv w w' tb rb mb n s' T' l ao cp m := by
  have ha := h.apart
  refine ⟨ht, hr, hw, hg, h.len, owns_kp h.ol hk ?_, h.nb, h.kp.past hk (by intro k hk' hl; have := h.nb; simp at hk'; omega)⟩
  intro g hg'
  have := ha.2.2.2 g hg'
  simp; omega
end

/-- What a step leaves. -/
def Did (w wr w' : World) (e : Ending) (tb rb mb n : Nat) (s : Int) (m : Nat) : Prop :=
  ∃ tb' T' l' ao' cp' m', e = .returned (.tuple #[.pointer (some ⟨tb', 0, none⟩), .pointer (some ⟨rb, 0, none⟩), .slice ao' m' cp', .bool true]) ∧ Dv w w' tb' rb mb n (s + 1) T' l' ao' cp' m' ∧ m' ≤ m + 1 ∧ Kp wr w' [tb, mb] ∧ (tb' = tb ∨ wr.heap.size ≤ tb')

theorem upd_wf {T : Pl} {n k : Nat} (h : ∀ i, n ≤ i → T i = (false, 0)) (hk : k < n) (v : Bool × Int) : ∀ i, n ≤ i → upd T k v i = (false, 0) := fun i hi => by
  rw [upd_ne T v (by omega)]; exact h i hi
theorem upd_gd {T : Pl} {k : Nat} {s : Int} {v : Bool × Int} (h : ∀ i, i < 16 → 0 ≤ (T i).2 ∧ (T i).2 ≤ s) (hv : 0 ≤ v.2 ∧ v.2 ≤ s + 1) : ∀ i, i < 16 → 0 ≤ (upd T k v i).2 ∧ (upd T k v i).2 ≤ s + 1 := fun i hi => by
  by_cases e : i = k
  · subst e; rw [upd_same]; exact hv
  · rw [upd_ne T v e]; have := h i hi; omega

theorem results_tmp4 {fn : Func} {t u v x : Tmp} (h : fn.results = #[.tmp t, .tmp u, .tmp v, .tmp x]) (tmps : Array Value) (P : Program) (w : World) :
    (results fn tmps).run P w = .ok (.tuple #[tmps.getD t undef, tmps.getD u undef, tmps.getD v undef, tmps.getD x undef]) w := by
  simp [results, h]
theorem owns_base {w : World} {b b' e s : Nat} {v : Value} {m : Nat} {xs : List Value} (h : w.ownsRow b e s v m xs) (hb : b' ≤ b) : w.ownsRow b' e s v m xs := by
  refine ⟨h.1, ?_⟩
  rcases h.2 with h0 | ⟨g, cap, cur, h1, h2, h3⟩
  · exact .inl h0
  · exact .inr ⟨g, cap, cur, h1, Nat.le_trans hb h2, h3⟩

set_option maxRecDepth 100000 in
set_option maxHeartbeats 1000000 in
theorem do_add (w wr : World) (tb rb mb n : Nat) (s : Int) (T : Pl) (l : List Int) (ao : Option Addr) (cp m : Nat) (x : St) (h : Dv w wr tb rb mb n s T l ao cp m) (hs : s ≤ 900000) (h1 : 1 ≤ n) (h2 : n ≤ 16) (hm : m ≤ 90000) (hx : x.k = 1) :
    Calls Try.prog 11 #[.pointer (some ⟨tb, 0, none⟩), .pointer (some ⟨rb, 0, none⟩), .agg #[.int .i64 x.k, .int .i64 x.n, .bool x.odd, .int .i64 x.h], .slice ao m cp] wr fun e w' => Did w wr w' e tb rb mb n s m := by
  rw [hx]
  have K0 := hid (Kp.alloc wr (.cells #[.int .i64 1, .int .i64 x.n, .bool x.odd, .int .i64 x.h] 35) [])
  have H0 := hid (h.keep K0.out)
  clear h
  have hlw := low_le T n 0
  by_cases hfull : low T n 0 = n
  · go_enter Try.func11, Try.ntmps11
    go_wp2_with fail
    refine (add_full _ tb n T H0.out.tt h1 h2 hfull).mono ?_
    rintro e w2 ⟨rfl, k2⟩
    have K2 := hid (K0.out.trans k2)
    have H2 := hid (H0.out.keep k2)
    clear k2 H0 K0
    go_wp2_with fail
    refine (radd_any _ rb mb n T H2.out.rt (H2.out.gd' (by omega)) (fun i hi => by have := H2.out.gd i hi; omega) h2).mono ?_
    rintro e w3 ⟨r1, -⟩
    obtain ⟨rfl, rfl⟩ := r1 hfull
    clear r1
    go_wp2_with (go_at_call 9; go_in)
    refine bodyPost_ret (results_tmp4 rfl _ _ _) rfl ?_
    exact ⟨tb, T, l, ao, cp, m, rfl, H2.out.mono (by omega), by omega, K2.out.nil, .inl rfl⟩
  · obtain ⟨k, hk⟩ : ∃ k, low T n 0 = k := ⟨_, rfl⟩
    have hkn : k < n := by omega
    have AP := hid H0.out.apart
    have hgk := H0.out.gd k (by omega)
    go_enter Try.func11, Try.ntmps11
    go_wp2_with fail
    refine (add_ok _ tb n k T H0.out.tt (H0.out.gd' (by omega)) (by omega) h1 h2 hk hkn).mono ?_
    rintro e w2 ⟨rfl, t2, k2⟩
    have R2 := hid (H0.out.rt.keep k2 (by have := AP.out.1; simpa using fun e => this e.symm) (by have := AP.out.2.1; simpa using fun e => this e.symm))
    have T2 := hid t2
    have K2 := hid k2
    clear t2 k2
    go_wp2_with fail
    refine (radd_any _ rb mb n T R2.out (H0.out.gd' (by omega)) (fun i hi => by have := H0.out.gd i hi; omega) h2).mono ?_
    rintro e w3 ⟨-, r2⟩
    rw [hk] at r2
    obtain ⟨rfl, r3, k3⟩ := r2 hkn
    have D3 := hid (H0.out.turn (s' := s + 1) ((K2.out.mono (by simp)).trans (k3.mono (by simp))) (T2.out.keep k3 (by have := AP.out.2.1; simpa using this)) r3 (upd_wf H0.out.wf hkn _) (upd_gd H0.out.gd (by simp only; omega)))
    have KK := hid (K0.out.nil.trans ((K2.out.mono (r2 := [tb, mb]) (by simp)).trans (k3.mono (by simp))))
    obtain ⟨v, hv⟩ : ∃ v : Int, (k : Int) + 16 * ((T k).2 + 1) = v := ⟨_, rfl⟩
    rw [hv]
    clear r2 r3 k3 H0 R2 T2 K2 K0 hv AP
    go_wp2_with (first | (go_at_call 9; go_in) | (refine wpList_clone_i rfl (.const (.slice none 0 0)) (.tmp 35) rfl w3.heap.size w.heap.size _ m l rfl rfl D3.out.ol (by omega) (Nat.le_refl _) ?_; intro v4 w4 o4 g4) | (refine wpList_push_i rfl (.tmp 36) (.tmp 38) rfl w3.heap.size v4 m (gi l) v rfl o4 rfl (by omega) g4.size ?_; intro v5 w5 o5 g5))
    refine bodyPost_ret (results_tmp4 rfl _ _ _) rfl ?_
    have k4 : Kp w3 w5 [] := ((Kp.grown g4 (rows := [])).trans (Kp.alloc w4 (.cells #[.int .i64 v] 2) [])).past (Kp.ofGrown (rows := v4.ownBlock.toList) g5 (by intro g hg; rw [hg]; simp)) (by
      intro g hg hl
      simp at hg
      have := (owns_block o4 hg).1
      omega)
    have D5 := D3.out.keep k4
    obtain ⟨ao5, cp5, rfl⟩ := owns_shape o5
    refine ⟨tb, _, l ++ [v], ao5, cp5, m + 1, rfl, ⟨D5.tt, D5.rt, D5.wf, D5.gd, by simp [D5.len], ?_, D5.nb, D5.kp⟩, by omega, KK.out.trans k4.nil, .inl rfl⟩
    have := owns_base o5 D3.out.kp.size
    simpa [gi] using this

set_option maxRecDepth 100000 in
theorem do_none (w wr : World) (tb rb mb n : Nat) (s : Int) (T : Pl) (l : List Int) (ao : Option Addr) (cp m : Nat) (x : St) (h : Dv w wr tb rb mb n s T l ao cp m) (hx1 : x.k ≠ 1) (hx2 : x.k ≠ 2) (hx3 : x.k ≠ 3) :
    Calls Try.prog 11 #[.pointer (some ⟨tb, 0, none⟩), .pointer (some ⟨rb, 0, none⟩), .agg #[.int .i64 x.k, .int .i64 x.n, .bool x.odd, .int .i64 x.h], .slice ao m cp] wr fun e w' => Did w wr w' e tb rb mb n s m := by
  have K0 := hid (Kp.alloc wr (.cells #[.int .i64 x.k, .int .i64 x.n, .bool x.odd, .int .i64 x.h] 35) [])
  have H0 := hid (h.keep K0.out)
  clear h
  have e1 : (x.k == 1) = false := by simp [hx1]
  have e2 : (x.k == 2) = false := by simp [hx2]
  have e3 : (x.k == 3) = false := by simp [hx3]
  go_enter Try.func11, Try.ntmps11
  go_wp2
  refine bodyPost_ret (results_tmp4 rfl _ _ _) rfl ?_
  exact ⟨tb, T, l, ao, cp, m, rfl, H0.out.mono (by omega), by omega, K0.out.nil, .inl rfl⟩

/-- A drop, whatever the number. -/
theorem drop_some (w : World) (tb n : Nat) (T : Pl) (x : Int) (s : Int) (h : Tt w tb n T) (hg : ∀ i, i < 16 → 0 ≤ (T i).2 ∧ (T i).2 ≤ s) (hs : s ≤ 1000000) (h1 : 1 ≤ n) (h2 : n ≤ 16) :
    Calls Try.prog 18 #[.pointer (some ⟨tb, 0, none⟩), .int .i64 x] w fun e w' => (∃ r : Int, e = .returned (.int .i64 r)) ∧ (∃ T', Tt w' tb n T' ∧ ∀ i, i < 16 → 0 ≤ (T' i).2 ∧ (T' i).2 ≤ s) ∧ Kp w w' [tb] := by
  have hgd : Gd T := fun i hi => ⟨(hg i hi).1, Int.le_trans (hg i hi).2 hs⟩
  cases hx : atB T n x with
  | false => exact (drop_no w tb n T x h hgd h1 h2 hx).mono fun e w' ⟨a, b⟩ => ⟨⟨6, a⟩, ⟨T, h.keep b (by simp), hg⟩, b.nil⟩
  | true =>
    obtain ⟨k, -, hv, hk, -, -⟩ := atV_nat hx
    refine (drop_ok w tb n k T x h hgd h1 h2 hx hv (by omega)).mono fun e w' ⟨a, b, c⟩ => ⟨⟨0, a⟩, ⟨_, b, fun i hi => ?_⟩, c⟩
    by_cases e : i = k
    · subst e; rw [upd_same]; exact hg i hi
    · rw [upd_ne T _ e]; exact hg i hi
/-- An add, whatever there is. -/
theorem add_some (w : World) (tb n : Nat) (T : Pl) (s : Int) (h : Tt w tb n T) (hg : ∀ i, i < 16 → 0 ≤ (T i).2 ∧ (T i).2 ≤ s) (hs : s < 1000000) (h1 : 1 ≤ n) (h2 : n ≤ 16) :
    Calls Try.prog 17 #[.pointer (some ⟨tb, 0, none⟩)] w fun e w' => (∃ a b : Int, e = .returned (.tuple #[.int .i64 a, .int .i64 b])) ∧ Kp w w' [tb] := by
  have hgd : Gd T := fun i hi => ⟨(hg i hi).1, Int.le_trans (hg i hi).2 (by omega)⟩
  have hlw := low_le T n 0
  by_cases hfull : low T n 0 = n
  · exact (add_full w tb n T h h1 h2 hfull).mono fun e w' ⟨a, b⟩ => ⟨⟨0, 5, a⟩, b.nil⟩
  · obtain ⟨k, hk⟩ : ∃ k, low T n 0 = k := ⟨_, rfl⟩
    exact (add_ok w tb n k T h hgd (by have := hg k (by omega); omega) h1 h2 hk (by omega)).mono fun e w' ⟨a, _, c⟩ => ⟨⟨_, _, a⟩, c⟩

set_option maxRecDepth 100000 in
set_option maxHeartbeats 1000000 in
theorem do_copy (w wr : World) (tb rb mb n : Nat) (s : Int) (T : Pl) (l : List Int) (ao : Option Addr) (cp m : Nat) (x : St) (h : Dv w wr tb rb mb n s T l ao cp m) (hs : s ≤ 900000) (h1 : 1 ≤ n) (h2 : n ≤ 16) (hx : x.k = 3) :
    Calls Try.prog 11 #[.pointer (some ⟨tb, 0, none⟩), .pointer (some ⟨rb, 0, none⟩), .agg #[.int .i64 x.k, .int .i64 x.n, .bool x.odd, .int .i64 x.h], .slice ao m cp] wr fun e w' => Did w wr w' e tb rb mb n s m := by
  rw [hx]
  have K0 := hid (Kp.alloc wr (.cells #[.int .i64 3, .int .i64 x.n, .bool x.odd, .int .i64 x.h] 35) [])
  have H0 := hid (h.keep K0.out)
  clear h
  go_enter Try.func11, Try.ntmps11
  go_wp2_with fail
  refine (copy_ok _ tb n T H0.out.tt (by omega)).mono ?_
  rintro e w2 ⟨rfl, rfl⟩
  obtain ⟨W0, hW0⟩ : ∃ W0, wr.alloc (.cells #[.int .i64 3, .int .i64 x.n, .bool x.odd, .int .i64 x.h] 35) = W0 := ⟨_, rfl⟩
  rw [hW0] at H0 K0 ⊢
  have k1 := Kp.alloc W0 (.cells (tcs n T) 55) []
  have C1 := hid (show Tt _ W0.heap.size n T from heap_alloc_new W0 (.cells (tcs n T) 55))
  have H1 := hid (H0.out.keep k1)
  have K1 := hid (K0.out.trans k1)
  have NC := hid (show wr.heap.size ≤ W0.heap.size ∧ tb < W0.heap.size ∧ rb < W0.heap.size ∧ mb < W0.heap.size ∧ w.heap.size ≤ W0.heap.size from ⟨K0.out.size, H0.out.tt.lt, lt_of_block H0.out.rt.hd, lt_of_block H0.out.rt.bd, H0.out.kp.size⟩)
  obtain ⟨W1, hW1⟩ : ∃ W1, W0.alloc (.cells (tcs n T) 55) = W1 := ⟨_, rfl⟩
  obtain ⟨cb, hcb⟩ : ∃ cb, W0.heap.size = cb := ⟨_, rfl⟩
  rw [hW1] at C1 H1 K1 ⊢
  rw [hcb] at C1 NC ⊢
  clear hW0 hW1 hcb k1 H0 K0
  go_wp2_with fail
  refine (same_any W1 (some ⟨cb, 0, none⟩) (some ⟨tb, 0, none⟩) n n T T (.inl ⟨cb, rfl, C1.out, by omega⟩) (.inl ⟨tb, rfl, H1.out.tt, by omega⟩)).mono ?_
  rintro e w3 ⟨rfl, k3⟩
  rw [show (decide ((n : Int) = n) && sameT T T) = true by simp [sameT]]
  have C3 := hid (C1.out.keep k3 (by simp))
  have H3 := hid (H1.out.keep k3)
  have K3 := hid (K1.out.trans k3)
  clear k3 C1 H1 K1
  go_wp2_with fail
  refine (drop_some w3 tb n T 16 s H3.out.tt H3.out.gd (by omega) h1 h2).mono ?_
  rintro e w4 ⟨⟨r, rfl⟩, ⟨T4, t4, g4⟩, k4⟩
  have T4 := hid t4
  have G4 := hid g4
  have K4 := hid k4
  clear t4 g4 k4
  go_wp2_with fail
  refine (add_some w4 tb n _ s T4.out G4.out (by omega) h1 h2).mono ?_
  rintro e w5 ⟨⟨a, b, rfl⟩, k5⟩
  have K5 := hid (K4.out.trans k5)
  clear k5 K4
  go_wp2
  refine bodyPost_ret (results_tmp4 rfl _ _ _) rfl ?_
  have nc := NC.out
  have ap := H3.out.apart
  refine ⟨cb, T, l, ao, cp, m, rfl, ⟨C3.out.keep K5.out (by simp; omega), H3.out.rt.keep K5.out (by simp; omega) (by simp; omega), H3.out.wf, fun i hi => by have := H3.out.gd i hi; omega, H3.out.len, owns_kp H3.out.ol K5.out (fun g hg => by have := ap.2.2.2 g hg; simp; omega), by have := H3.out.nb; omega, H3.out.kp.past K5.out (by intro k hk hl; have := H3.out.nb; simp at hk; omega)⟩, by omega, (K3.out.nil.trans (K5.out.mono (by simp))), .inr (by omega)⟩

theorem upd_gd0 {T : Pl} {k : Nat} {s : Int} (h : ∀ i, i < 16 → 0 ≤ (T i).2 ∧ (T i).2 ≤ s) : ∀ i, i < 16 → 0 ≤ (upd T k (false, (T k).2) i).2 ∧ (upd T k (false, (T k).2) i).2 ≤ s + 1 := fun i hi => by
  by_cases e : i = k
  · subst e; rw [upd_same]; have := h i hi; simp only; omega
  · rw [upd_ne T _ e]; have := h i hi; omega

theorem drop_pair (w : World) (tb n : Nat) (T : Pl) (x : Int) (h : Tt w tb n T) (hg : Gd T) (h1 : 1 ≤ n) (h2 : n ≤ 16) :
    Calls Try.prog 18 #[.pointer (some ⟨tb, 0, none⟩), .int .i64 x] w fun e w' => (atB T n x = false ∧ e = .returned (.int .i64 6) ∧ Kp w w' []) ∨ (∃ k, k < n ∧ atB T n x = true ∧ atV T n x = (k : Nat) ∧ e = .returned (.int .i64 0) ∧ Tt w' tb n (upd T k (false, (T k).2)) ∧ Kp w w' [tb]) := by
  cases hx : atB T n x with
  | false => exact (drop_no w tb n T x h hg h1 h2 hx).mono fun e w' ⟨a, b⟩ => .inl ⟨rfl, a, b⟩
  | true =>
    obtain ⟨k, -, hv, hk, -, -⟩ := atV_nat hx
    exact (drop_ok w tb n k T x h hg h1 h2 hx hv (by omega)).mono fun e w' ⟨a, b, c⟩ => .inr ⟨k, by omega, rfl, hv, a, b, c⟩

set_option maxRecDepth 100000 in
set_option maxHeartbeats 1000000 in
theorem do_drop (w wr : World) (tb rb mb n : Nat) (s : Int) (T : Pl) (l : List Int) (ao : Option Addr) (cp m : Nat) (x : St) (h : Dv w wr tb rb mb n s T l ao cp m) (hs : s ≤ 900000) (h1 : 1 ≤ n) (h2 : n ≤ 16) (hx : x.k = 2) :
    Calls Try.prog 11 #[.pointer (some ⟨tb, 0, none⟩), .pointer (some ⟨rb, 0, none⟩), .agg #[.int .i64 x.k, .int .i64 x.n, .bool x.odd, .int .i64 x.h], .slice ao m cp] wr fun e w' => Did w wr w' e tb rb mb n s m := by
  rw [hx]
  obtain ⟨N, hN⟩ : ∃ N, x.n = N := ⟨_, rfl⟩
  obtain ⟨X, hX⟩ : ∃ X, x.h = X := ⟨_, rfl⟩
  obtain ⟨O, hO⟩ : ∃ O, x.odd = O := ⟨_, rfl⟩
  rw [hN, hX, hO]
  have K0 := hid (Kp.alloc wr (.cells #[.int .i64 2, .int .i64 N, .bool O, .int .i64 X] 35) [])
  have H0 := hid (h.keep K0.out)
  have AP := hid H0.out.apart
  clear h hN hX hO hx
  go_enter Try.func11, Try.ntmps11
  refine (Classical.em (O = false ∧ 0 ≤ N ∧ 0 < m)).elim (fun hw => ?wayD) (fun hw => ?wayX)
  case' wayD =>
    obtain ⟨rfl, hn0, hm0⟩ := hw
    have hm0' : (0 : Int) < m := by omega
    have hm2 : ¬ (m : Int) = 0 := by omega
    obtain ⟨k, hk'⟩ : ∃ k : Nat, N.tmod m = k := ⟨(N.tmod m).toNat, (Int.toNat_of_nonneg (Int.tmod_nonneg _ hn0)).symm⟩
    have hkm : k < m := by
      have := Int.tmod_lt_of_pos N hm0'
      omega
    have hkb : 0 ≤ (k : Int) ∧ (k : Int) < m := by omega
    obtain ⟨gG, rfl, hgG, cG, -⟩ := own_at H0.out.ol hkm
    rw [gi_at (by rw [H0.out.len]; exact hkm)] at cG
    obtain ⟨y, hy⟩ : ∃ y, l.getD k 0 = y := ⟨_, rfl⟩
    rw [hy] at cG
    go_wp2_with fail
    generalize (some (⟨gG, 0, none⟩ : Addr)) = ao at H0 AP ⊢
  case' wayX =>
    refine (Classical.em (O = true)).elim (fun hO => ?isOdd) (fun hO => ?notOdd)
    case' isOdd =>
      subst hO
      obtain ⟨y, hy⟩ : ∃ y, X = y := ⟨_, rfl⟩
      subst hy
      go_wp2_with fail
    case' notOdd =>
      obtain rfl : O = false := by simpa using hO
      refine (Classical.em (N < 0)).elim (fun hn => ?isNeg) (fun hn => ?notNeg)
      case' isNeg =>
        obtain ⟨y, hy⟩ : ∃ y, X = y := ⟨_, rfl⟩
        subst hy
        go_wp2_with fail
      case' notNeg =>
        have hn0 : 0 ≤ N := by omega
        have hm0 : ¬ (0 : Int) < m := by
          intro e
          exact hw ⟨rfl, hn0, by omega⟩
        obtain ⟨y, hy⟩ : ∃ y, X = y := ⟨_, rfl⟩
        subst hy
        go_wp2_with fail
  all_goals
    refine (drop_pair _ tb n T _ H0.out.tt (H0.out.gd' (by omega)) h1 h2).mono ?_
    rintro e w2 (⟨hb, rfl, k2⟩ | ⟨k, hkn, hb, hv, rfl, t2, k2⟩)
    · have H2 := hid (H0.out.keep k2)
      have K2 := hid (K0.out.trans k2)
      clear k2 H0 K0 AP
      go_wp2_with (go_at_call 9; go_in)
      refine (rdrop_no _ rb mb n T _ H2.out.rt (H2.out.gd' (by omega)) h2 hb).mono ?_
      rintro e w3 ⟨rfl, rfl⟩
      go_wp2
      refine bodyPost_ret (results_tmp4 rfl _ _ _) rfl ?_
      exact ⟨tb, T, l, ao, cp, m, rfl, H2.out.mono (by omega), by omega, K2.out.nil, .inl rfl⟩
    · have R2 := hid (H0.out.rt.keep k2 (by have := AP.out.1; simpa using fun e => this e.symm) (by have := AP.out.2.1; simpa using fun e => this e.symm))
      have T2 := hid t2
      have K2 := hid k2
      clear t2 k2
      go_wp2_with (go_at_call 9; go_in)
      refine (rdrop_ok _ rb mb n k T _ R2.out (H0.out.gd' (by omega)) h2 hb hv hkn).mono ?_
      rintro e w3 ⟨rfl, r3, k3⟩
      have D3 := hid (H0.out.turn (s' := s + 1) ((K2.out.mono (by simp)).trans (k3.mono (by simp))) (T2.out.keep k3 (by have := AP.out.2.1; simpa using this)) r3 (upd_wf H0.out.wf hkn _) (upd_gd0 H0.out.gd))
      have KK := hid (K0.out.nil.trans ((K2.out.mono (r2 := [tb, mb]) (by simp)).trans (k3.mono (by simp))))
      clear r3 k3 H0 R2 T2 K2 K0 AP
      go_wp2
      refine bodyPost_ret (results_tmp4 rfl _ _ _) rfl ?_
      exact ⟨tb, _, l, ao, cp, m, rfl, D3.out, by omega, KK.out, .inl rfl⟩

theorem do_any (w wr : World) (tb rb mb n : Nat) (s : Int) (T : Pl) (l : List Int) (ao : Option Addr) (cp m : Nat) (x : St) (h : Dv w wr tb rb mb n s T l ao cp m) (hs : s ≤ 900000) (h1 : 1 ≤ n) (h2 : n ≤ 16) (hm : m ≤ 90000) :
    Calls Try.prog 11 #[.pointer (some ⟨tb, 0, none⟩), .pointer (some ⟨rb, 0, none⟩), .agg #[.int .i64 x.k, .int .i64 x.n, .bool x.odd, .int .i64 x.h], .slice ao m cp] wr fun e w' => Did w wr w' e tb rb mb n s m := by
  by_cases e1 : x.k = 1
  · exact do_add w wr tb rb mb n s T l ao cp m x h hs h1 h2 hm e1
  by_cases e2 : x.k = 2
  · exact do_drop w wr tb rb mb n s T l ao cp m x h hs h1 h2 e2
  by_cases e3 : x.k = 3
  · exact do_copy w wr tb rb mb n s T l ao cp m x h hs h1 h2 e3
  exact do_none w wr tb rb mb n s T l ao cp m x h e1 e2 e3
end Go.Proofs.Ytaofpijcjohnhaa
