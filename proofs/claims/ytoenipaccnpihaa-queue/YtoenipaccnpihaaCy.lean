/- Copy. -/
import Derived.RangeFuncBox
import Derived.Deep.WholeRow
import Derived.Test.YtoenipaccnpihaaNx
namespace Go.Proofs.Ytoenipaccnpihaa
open Go.RowKit Go.Shelf Go.Sort Go.Maps
open Go.Lib hiding intOf
attribute [local go_sem] Oper.semAt_some

theorem wpList_store_new {P : Program} {ops : Array Oper} {rest : List Oper} {op : Oper} {a : Act} {w : World} {Q : Exit → Act → World → Prop} (hgd : op.guard = none) (ty : TypeId) (x y : Operand) (ho : op.op = .store ty x y)
    (t : TypeId) (c c' : Array Value) (hx : a.eval x = .pointer (some ⟨w.heap.size, 0, none⟩)) (hy : a.eval y = .agg c')
    (hi : (P.info? ty).map (·.size) = some c'.size) (hs : c.size = c'.size) (h1 : c'.all (·.oneCell') = true)
    (h : wpList P ops Q rest (a.put op.dst undef) (w.alloc (.cells c' t))) : wpList P ops Q (op :: rest) a (w.alloc (.cells c t)) :=
  wpList_plain hgd fun _ hK => wp_store_row ty x y ho w.heap.size c' hx hy t c (heap_alloc_new w _) hi hs h1 (by rw [World.setRow_alloc_new]; exact hK _ _ h)
theorem size61 (F : Nat → Value) : (Try.prog.info? 61).map (·.size) = some (vcl F 35 0).toArray.size := by
  rw [List.size_toArray, vcl_length]
  kernel_rfl
theorem sV_one (T S : Nat) (M p : Nat → Nat) (mb i : Nat) : (sV T S M p mb i).oneCell' = true := by
  unfold sV
  split
  · rfl
  split
  · rfl
  split
  · rfl
  split <;> rfl
theorem vcl_mem {F : Nat → Value} {v : Value} : ∀ (k i : Nat), v ∈ vcl F k i → ∃ j, v = F j
  | 0, _, h => by simp [vcl] at h
  | k + 1, i, h => by
    simp only [vcl, List.mem_cons] at h
    rcases h with h | h
    · exact ⟨i, h⟩
    · exact vcl_mem k (i + 1) h
theorem one61 (T S : Nat) (M p : Nat → Nat) (mb : Nat) : (vcl (sV T S M p mb) 35 0).toArray.all (·.oneCell') = true := all_oneCell_toArray (fun v hv => by
  obtain ⟨j, rfl⟩ := vcl_mem _ _ hv
  exact sV_one T S M p mb j)
theorem Sc.setMap {w : World} {sb T S mb mb' : Nat} {M p : Nat → Nat} (h : Sc w sb T S M p mb) : Sc (w.setCell ⟨sb, 34, none⟩ (.map (some mb'))) sb T S M p mb' := by
  refine vcl_heap h (by omega) fun i hi => ?_
  by_cases e : i = 34
  · rw [if_pos e, e]
    rfl
  · rw [if_neg e]
    unfold sV
    by_cases e0 : i = 0
    · simp [e0]
    by_cases e1 : i = 1
    · simp [e1]
    rw [if_neg e0, if_neg e1, if_neg e0, if_neg e1]
    by_cases e2 : i < 18
    · rw [if_pos e2, if_pos e2]
    rw [if_neg e2, if_neg e2, if_pos (by omega), if_pos (by omega)]
set_option maxRecDepth 100000 in
theorem copy_zero (w : World) (p : Option Addr) (h : Zs w p) : Calls Try.prog 29 #[.pointer p] w fun e w' => e = .returned (.pointer none) ∧ Kp w w' [] := by
  have HZ := hid (zero_yes w p h)
  clear h
  go_enter Try.func29, Try.ntmps29
  go_wp2_with fail
  refine HZ.out.mono ?_
  rintro e w1 ⟨rfl, hw⟩; obtain rfl := hw.symm
  go_wp2
  go_ret
  exact ⟨rfl, Kp.refl _ _⟩
/-- Copying under way: those that are left are not copied yet. -/
structure Cu (w wr : World) (L : El) (mb' : Nat) (left : Lit → Bool) (g cap : Nat → Nat → Nat) : Prop where
  m : Mq wr mb' (fun t n => if left (kl t n) = true then none else Fq L g cap t n)
  row : ∀ t n, t < 16 → n < 32 → 16 ≤ n → q L t n ≠ [] → left (kl t n) = false → Ns wr w.heap.size (.slice (some ⟨g t n, 0, none⟩) (q L t n).length (cap t n)) (q L t n)
  inj : ∀ t n t' n', t < 16 → n < 32 → t' < 16 → n' < 32 → 16 ≤ n → q L t n ≠ [] → left (kl t n) = false → 16 ≤ n' → q L t' n' ≠ [] → left (kl t' n') = false → g t n = g t' n' → t' = t ∧ n' = n
theorem Cu.keep {w wr w' : World} {L : El} {mb' : Nat} {left : Lit → Bool} {g cap : Nat → Nat → Nat} (h : Cu w wr L mb' left g cap) (hk : Kp wr w' []) : Cu w w' L mb' left g cap :=
  ⟨h.m.keep hk (by simp), fun t n a b c d e => (h.row t n a b c d e).keep hk, h.inj⟩
/-- A block that was written and is of none of its rows. -/
theorem Cu.past {w wr w' : World} {L : El} {mb' : Nat} {left : Lit → Bool} {g cap : Nat → Nat → Nat} {b : Nat} (h : Cu w wr L mb' left g cap) (hk : Kp wr w' [b]) (hb : b ≠ mb') (hg : ∀ c, wr.heap[b]? ≠ some (.cells c 2 (0, 0))) : Cu w w' L mb' left g cap :=
  ⟨h.m.keep hk (by simp; exact fun e => hb e.symm), fun t n a b' c d e => (h.row t n a b' c d e).kp hk (fun g' hg' hm => by
    obtain ⟨-, cur, hc⟩ := owns_block (h.row t n a b' c d e) hg'
    simp at hm
    subst hm
    exact hg _ hc), h.inj⟩
/-- One more is copied. -/
theorem Cu.step {w wr w1 w2 : World} {L : El} {mb' : Nat} {left : Lit → Bool} {g cap : Nat → Nat → Nat} (h : Cu w wr L mb' left g cap) {t n : Nat} {V : Value} (ht : t < 16) (hn : n < 32) (h16 : 16 ≤ n) (hq : q L t n ≠ []) (hl : left (kl t n) = true)
    (hk1 : Kp wr w1 []) (hV : Ns w1 wr.heap.size V (q L t n)) (hm : Mq w2 mb' (setF (fun t n => if left (kl t n) = true then none else Fq L g cap t n) t n (some V))) (hk2 : Kp w1 w2 [mb']) (hs : w.heap.size ≤ wr.heap.size) :
    ∃ g' cap', Cu w w2 L mb' (fun z => left z && !z.sameKey (kl t n)) g' cap' := by
  obtain ⟨ao, c, hVs⟩ := hV.slice
  obtain ⟨gb, rfl⟩ : ∃ gb, ao = some ⟨gb, 0, none⟩ := by
    cases ao with
    | none =>
      rw [hVs] at hV
      exact (hq hV.none_of.1).elim
    | some ad =>
      rw [hVs] at hV
      obtain ⟨gb, rfl⟩ := hV.some_of
      exact ⟨gb, rfl⟩
  subst hVs
  have hgb := owns_block hV (g := gb) rfl
  obtain ⟨es, clk, hmo⟩ := h.m.obj
  have hmlt := lt_of_block hmo
  have hlt : ∀ t' n', t' < 16 → n' < 32 → ¬ (t' = t ∧ n' = n) → (left (kl t' n') && !(kl t' n').sameKey (kl t n)) = left (kl t' n') := fun t' n' a b e => by
    rw [sameKey_ne (kl_ne ht hn a b e)]
    simp
  have hls : (left (kl t n) && !(kl t n).sameKey (kl t n)) = false := by
    rw [WideAt.sameKey_self (kl_key ht hn)]
    simp
  have old : ∀ t' n', t' < 16 → n' < 32 → 16 ≤ n' → q L t' n' ≠ [] → left (kl t' n') = false → g t' n' < wr.heap.size ∧ g t' n' ≠ mb' := fun t' n' a b c d e => by
    obtain ⟨-, cur, hc⟩ := owns_block (h.row t' n' a b c d e) (g := g t' n') rfl
    refine ⟨lt_of_block hc, ?_⟩
    intro e'
    rw [e', hmo] at hc
    cases hc
  refine ⟨fun t' n' => if t' = t ∧ n' = n then gb else g t' n', fun t' n' => if t' = t ∧ n' = n then c else cap t' n', hm.congr (fun t' n' a b => ?_), fun t' n' a b c' d e => ?_, fun t1 n1 t2 n2 a1 b1 a2 b2 c1 d1 e1 c2 d2 e2 e => ?_⟩
  · unfold setF
    by_cases e : t' = t ∧ n' = n
    · obtain ⟨rfl, rfl⟩ := e
      rw [if_pos ⟨rfl, rfl⟩]
      simp only [hls, Bool.false_eq_true, if_false]
      unfold Fq
      rw [if_pos ⟨h16, hq⟩]
      simp
    · rw [if_neg e]
      simp only [hlt t' n' a b e]
      split
      · rfl
      · unfold Fq
        simp only [if_neg e]
  · by_cases e' : t' = t ∧ n' = n
    · obtain ⟨rfl, rfl⟩ := e'
      simp only [and_self, if_true]
      have hgne : gb ≠ mb' := by omega
      exact (hV.low hs).kp hk2 (fun g' hg' => by
        simp [Value.ownBlock] at hg'
        subst hg'
        simpa using hgne)
    · simp only [hlt t' n' a b e'] at e
      simp only [if_neg e']
      have h3 := old t' n' a b c' d e
      exact ((h.row t' n' a b c' d e).keep hk1).kp hk2 (fun g' hg' => by
        simp [Value.ownBlock] at hg'
        subst hg'
        simpa using h3.2)
  · by_cases f1 : t1 = t ∧ n1 = n
    · by_cases f2 : t2 = t ∧ n2 = n
      · exact ⟨f2.1.trans f1.1.symm, f2.2.trans f1.2.symm⟩
      · simp only [if_pos f1, if_neg f2] at e
        simp only [hlt t2 n2 a2 b2 f2] at e2
        have := (old t2 n2 a2 b2 c2 d2 e2).1
        have := hgb.1
        omega
    · simp only [hlt t1 n1 a1 b1 f1] at e1
      by_cases f2 : t2 = t ∧ n2 = n
      · simp only [if_neg f1, if_pos f2] at e
        have := (old t1 n1 a1 b1 c1 d1 e1).1
        have := hgb.1
        omega
      · simp only [hlt t2 n2 a2 b2 f2] at e2
        simp only [if_neg f1, if_neg f2] at e
        exact h.inj t1 n1 t2 n2 a1 b1 a2 b2 c1 d1 e1 c2 d2 e2 e
/-- The copy, done. -/
theorem Cu.done {w wr : World} {sb T S : Nat} {M : Nat → Nat} {L : El} {mb mb' ob : Nat} {left : Lit → Bool} {g cap g0 cap0 : Nat → Nat → Nat} {R : List Nat} (h0 : Sp w sb R T S M L mb g0 cap0) (h : Cu w wr L mb' left g cap) (hl : ∀ z, left z = false) (hc : Sc wr ob T S M (pend L) mb') (hob : w.heap.size ≤ ob) (hmb : w.heap.size ≤ mb') :
    ∃ R', Sg wr ob R' T S M L ∧ ∀ k ∈ R', w.heap.size ≤ k := by
  have hkey : ∀ t n, q L t n ≠ [] → t < 16 ∧ n < 32 := fun t n hq => by
    have := h0.ok.qin hq
    have := h0.t2
    omega
  have hr : ∀ t n, 16 ≤ n → q L t n ≠ [] → Ns wr w.heap.size (.slice (some ⟨g t n, 0, none⟩) (q L t n).length (cap t n)) (q L t n) := fun t n h16 hq => h.row t n (hkey t n hq).1 (hkey t n hq).2 h16 hq (hl _)
  refine ⟨ob :: mb' :: (ks.filterMap fun k => if 16 ≤ k.2 ∧ q L k.1 k.2 ≠ [] then some (g k.1 k.2) else none), ⟨mb', g, cap, hc, h.m.congr (fun t n _ _ => by simp [hl]), fun t n h16 hq => ⟨(hr t n h16 hq).low (Nat.zero_le _), ?_⟩, fun t n t' n' a b c d e => h.inj t n t' n' (hkey t n b).1 (hkey t n b).2 (hkey t' n' d).1 (hkey t' n' d).2 a b (hl _) c d (hl _) e, by simp, by simp, fun j hj => ?_, h0.ok, h0.t1, h0.t2, h0.s1, h0.s2, h0.mm⟩, fun k hk => ?_⟩
  · simp only [List.mem_cons, List.mem_filterMap]
    exact .inr (.inr ⟨(t, n), mem_ks.2 (hkey t n hq), by simp [h16, hq]⟩)
  · simp only [List.mem_cons, List.mem_filterMap] at hj
    rcases hj with rfl | rfl | ⟨k, hk, e⟩
    · exact hc.lt
    · obtain ⟨es, clk, hm⟩ := h.m.obj
      exact lt_of_block hm
    · split at e
      · rename_i hc'
        simp at e
        subst e
        obtain ⟨-, cur, hx⟩ := owns_block (hr _ _ hc'.1 hc'.2) (g := g k.1 k.2) rfl
        exact lt_of_block hx
      · cases e
  · simp only [List.mem_cons, List.mem_filterMap] at hk
    rcases hk with rfl | rfl | ⟨k', hk', e⟩
    · exact hob
    · exact hmb
    · split at e
      · rename_i hc'
        simp at e
        subst e
        exact (owns_block (hr _ _ hc'.1 hc'.2) (g := g k'.1 k'.2) rfl).1
      · cases e
theorem Kp.grown1 {w w' : World} {b : Nat} (h : Kp w w' [b]) : w.grownBy w' (some b) := ⟨h.os, h.tape, h.output, h.size, fun k hk hne => h.block k hk (by simp; exact fun e => hne (by rw [e]))⟩
theorem Sp.few {w : World} {sb : Nat} {R : List Nat} {T S : Nat} {M : Nat → Nat} {L : El} {mb : Nat} {g cap : Nat → Nat → Nat} (h : Sp w sb R T S M L mb g cap) {t n : Nat} (ht : t < 16) (hn : n < 32) (h16 : 16 ≤ n) : (q L t n).length ≤ 32 := by
  have h1 := used_sum L fun x hx => by have := h.ok.inn x hx; have := h.t2; omega
  have h2 := h.ok.few
  have h4 := h.s2
  have h3 : lenQ L (t, n) ≤ (ks.map (lenQ L)).sum := by
    have := sum_upd (f := fun k => if k = (t, n) then 0 else lenQ L k) (f' := lenQ L) (k0 := (t, n)) (c := lenQ L (t, n)) nodup_ks (mem_ks.2 ⟨ht, hn⟩) (fun k _ hne => by simp [hne]) (by simp)
    omega
  have : lenQ L (t, n) = (q L t n).length := by simp [lenQ, h16]
  omega
set_option maxRecDepth 100000 in
set_option maxHeartbeats 2000000 in
theorem copy_any (w : World) (sb : Nat) (R : List Nat) (T S : Nat) (M : Nat → Nat) (L : El) (h : Sg w sb R T S M L) : Calls Try.prog 29 #[.pointer (some ⟨sb, 0, none⟩)] w fun e w' => ∃ ob R', e = .returned (.pointer (some ⟨ob, 0, none⟩)) ∧ Sg w' ob R' T S M L ∧ (∀ k ∈ R', w.heap.size ≤ k) ∧ Kp w w' [] := by
  have HZ := hid (zero_no w sb R T S M L h)
  obtain ⟨mb, g0, cap0, h⟩ := h
  have H0 := hid h
  have HC := hid h.c
  have hsb := h.c.lt
  have hmlt := h.lt _ h.mR
  have c34 := h.c.mp
  obtain ⟨D, ho, hd⟩ := h.m
  have HO := hid ho
  have HDD := hid hd
  obtain ⟨CS, hCS⟩ : ∃ CS, (vcl (sV T S M (pend L) mb) 35 0).toArray = CS := ⟨_, rfl⟩
  have hcs : CS.size = 35 := by rw [← hCS]; simp [vcl_length]
  have hb : w.heap[sb]? = some (.cells CS 61 (0, 0)) := by rw [← hCS]; exact h.c
  have hi := size61 (sV T S M (pend L) mb)
  have h1 := one61 T S M (pend L) mb
  rw [hCS] at hi h1
  have HB := hid hb
  have HI := hid hi
  have H1 := hid h1
  have HCS := hid hCS
  have HSZ := hid hcs
  obtain ⟨W1, hW1⟩ : ∃ W1, w.alloc (.cells CS 61) = W1 := ⟨_, rfl⟩
  have k1 : Kp w W1 [] := by rw [← hW1]; exact Kp.alloc _ _ _
  have s1 : W1.heap.size = w.heap.size + 1 := by rw [← hW1]; simp
  have b1 : Sc W1 w.heap.size T S M (pend L) mb := by rw [← hW1, ← hCS]; exact heap_alloc_new w _
  obtain ⟨W2, hW2⟩ : ∃ W2, W1.alloc (.map #[] 0) = W2 := ⟨_, rfl⟩
  have k2 : Kp W1 W2 [] := by rw [← hW2]; exact Kp.alloc _ _ _
  have m2 : Mq W2 W1.heap.size (fun _ _ => none) := by rw [← hW2]; exact mq_made W1
  have b2 : Sc W2 w.heap.size T S M (pend L) mb := b1.keep k2 (by simp)
  have s2 : W2.heap.size = w.heap.size + 2 := by rw [← hW2]; simp [s1]
  have cm := b2.mp
  have fm := b2.free 34
  have k3 := Kp.setCell W2 ⟨w.heap.size, 34, none⟩ (.map (some W1.heap.size))
  have b3 : Sc (W2.setCell ⟨w.heap.size, 34, none⟩ (.map (some W1.heap.size))) w.heap.size T S M (pend L) W1.heap.size := b2.setMap
  have K3 := hid (show Kp w (W2.setCell ⟨w.heap.size, 34, none⟩ (.map (some W1.heap.size))) [] from (k1.trans k2).past k3 (by intro k hk hl; simp at hk; omega))
  have C0 := hid (show Cu w (W2.setCell ⟨w.heap.size, 34, none⟩ (.map (some W1.heap.size))) L W1.heap.size (Maps.has D) (fun _ _ => 0) (fun _ _ => 0) from by
    have hn0 : ∀ t n, t < 16 → n < 32 → 16 ≤ n → q L t n ≠ [] → Maps.has D (kl t n) = true := fun t n a b c d => by
      rw [hd.has t n a b, Fq_isSome]
      simp [c, d]
    refine ⟨(m2.keep k3 (by simp; omega)).congr (fun t n a b => ?_), fun t n a b c d e => ?_, fun t n t' n' a b _ _ c d e => ?_⟩
    · by_cases e : Maps.has D (kl t n) = true
      · rw [if_pos e]
      · rw [if_neg e]
        unfold Fq
        rw [if_neg]
        rintro ⟨x, y⟩
        exact e (hn0 t n a b x y)
    · rw [hn0 t n a b c d] at e
      cases e
    · rw [hn0 t n a b c d] at e
      cases e)
  have B3 := hid b3
  have c34' := (K3.out.cell c34 (by simp))
  have hs3 : (W2.setCell ⟨w.heap.size, 34, none⟩ (.map (some W1.heap.size))).heap.size = w.heap.size + 2 := by simp [s2]
  obtain ⟨W3, hW3⟩ : ∃ W3, W2.setCell ⟨w.heap.size, 34, none⟩ (.map (some W1.heap.size)) = W3 := ⟨_, rfl⟩
  rw [hW3] at K3 C0 B3 c34' hs3
  have ho3 : W3.ownsMap Try.prog 78 RQ mb 512 D := by
    obtain ⟨es, clk, hmb, hrest⟩ := HO.out
    exact ⟨es, clk, (K3.out.block mb hmlt (by simp)).trans hmb, hrest⟩
  have HS1 := hid s1
  have HS3 := hid hs3
  have hmm := @run_makeMap Try.prog
  clear h ho hd hb hi h1 k1 k2 m2 b1 b2 k3 b3 s1 s2 c34 hCS hcs hs3
  go_enter Try.func29, Try.ntmps29
  go_wp2_with (first | (go_at_call 36; refine HZ.out.mono ?_; rintro e w1 ⟨rfl, hw1⟩; obtain rfl := hw1.symm; clear hw1) | (refine wpList_load_row rfl 61 (.tmp 9) rfl sb rfl 61 CS (0, 0) _ HB.out Try.underlying61 rfl HI.out ?_) | (refine wpList_store_new rfl 61 (.tmp 3) (.tmp 10) rfl 61 _ CS rfl rfl HI.out (by simp [HSZ.out]) H1.out ?_) | (at_range; refine wpList_range_own _ rfl _ 59 rfl 78 43 keyed78 Try.underlying59 RQ mb 512 D rfl ho3 ?_; intro w0 hrg0 hg0 hs0) | fail)
  go_frame
  obtain ⟨X, hX⟩ : ∃ X, W1.heap.size = X := ⟨_, rfl⟩
  have HR0 := hid (show w0.ranges Try.prog 78 RQ mb W3.heap.size 512 D (Maps.has D) (Maps.size D) ∧ Cu w w0 L W1.heap.size (Maps.has D) (fun _ _ => 0) (fun _ _ => 0) ∧ Sc w0 w.heap.size T S M (pend L) W1.heap.size ∧ Kp w w0 [] ∧ W3.heap.size < w0.heap.size from by
    have kg : Kp W3 w0 [] := Kp.ofGrown hg0 (by simp)
    exact ⟨hrg0, C0.out.keep kg, B3.out.keep kg (by simp), K3.out.trans kg, by omega⟩)
  clear hrg0 hg0 hs0 ho3 c34' cm fm
  rw [hX] at HR0 HS1
  try simp only [hX]
  go_loopw [] (fun wr => ∃ left cnt g cap, Hid (wr.ranges Try.prog 78 RQ mb W3.heap.size 512 D left cnt ∧ Cu w wr L X left g cap ∧ Sc wr w.heap.size T S M (pend L) X ∧ Kp w wr [] ∧ W3.heap.size < wr.heap.size)) (fun wr => wr.rangeLeft mb W3.heap.size)
  case atStart => exact ⟨_, _, _, _, HR0⟩
  case round =>
    obtain ⟨left, cnt, g, cap, hR⟩ := hrel
    have hrg := hR.out.1
    clear HR0
    go_wp2_with (first | (at_next; refine wpList_next_ranges _ rfl _ rfl 78 keyed78 RQ (fun v => v) (fun v => v) (fun key kl h => ⟨key, rfl⟩) (fun v y h => ⟨v, rfl⟩) mb W3.heap.size 512 D left cnt rfl hrg ?_ ?_) | fail)
    · intro hc0 hl0
      have F := hid (show ∃ R', Sg wr w.heap.size R' T S M L ∧ ∀ k ∈ R', w.heap.size ≤ k from hR.out.2.1.done H0.out hl0 hR.out.2.2.1 (Nat.le_refl _) (by have := HS1.out; omega))
      clear hrg hc0 hl0
      go_wp2
      go_ret
      obtain ⟨R', f1, f2⟩ := F.out
      exact ⟨w.heap.size, R', rfl, f1, f2, hR.out.2.2.2.1⟩
    · intro x c l y1 y2 w2 cnt2 hkx hlx hRy hat hrg2 hlt2 hg2 hs2 hen
      obtain ⟨t, n, ht, hn, rfl, rfl, hF⟩ := HDD.out.came hkx hRy hat
      simp only [key] at hen ⊢
      obtain ⟨h16, hq, rfl⟩ := Fq_some hF
      obtain ⟨-, hcu, hsc, hkp, hzr⟩ := hR.out
      have kg2 : Kp wr w2 [W3.heap.size] := Kp.ofGrown hg2 (by simp)
      have hit : ∀ c, wr.heap[W3.heap.size]? ≠ some (.cells c 2 (0, 0)) := fun c e => by
        obtain ⟨_, _, _, _, _, _, _, _, _, h5, _⟩ := hrg
        rw [h5] at e
        cases e
      have hX3 : X ≠ W3.heap.size := by have := HS1.out; have := HS3.out; omega
      have hcu2 := hcu.past kg2 (fun e => hX3 e.symm) hit
      have hsc2 : Sc w2 w.heap.size T S M (pend L) X := hsc.keep kg2 (by simp; have := HS3.out; omega)
      have hkp2 : Kp w w2 [] := hkp.past kg2 (by intro j hj hl; simp at hj; have := HS3.out; omega)
      have hz2 : W3.heap.size < w2.heap.size := by omega
      have kA := Kp.alloc w2 (.cells #[.int .i64 (t : Nat), .int .i64 (n : Nat)] 78) []
      obtain ⟨w3, hw3⟩ : ∃ w3, w2.alloc (.cells #[.int .i64 (t : Nat), .int .i64 (n : Nat)] 78) = w3 := ⟨_, rfl⟩
      rw [hw3] at kA
      have d0 : w3.cell? ⟨w2.heap.size, 0, none⟩ = some (.int .i64 (t : Nat)) := by rw [← hw3]; exact cell_two0 (heap_alloc_new w2 _)
      have d1 : w3.cell? ⟨w2.heap.size, 1, none⟩ = some (.int .i64 (n : Nat)) := by rw [← hw3]; exact cell_two1 (heap_alloc_new w2 _)
      have hcu3 := hcu2.keep kA
      have hsc3 : Sc w3 w.heap.size T S M (pend L) X := hsc2.keep kA (by simp)
      have hrow : Ns w3 0 (.slice (some ⟨g0 t n, 0, none⟩) (q L t n).length (cap0 t n)) (q L t n) := ((H0.out.row t n h16 hq).1.keep hkp2).keep kA
      have hfew := H0.out.few ht hn h16
      have CL := hid (fun (z : World) (hk : Kp w3 z []) => clone_any z _ _ (hrow.keep hk) (by omega))
      have CC := hid (fun (z : World) (hk : Kp w3 z []) => And.intro (hk.cell hsc3.mp (by simp)) (And.intro (hk.cell d0 (by simp)) (hk.cell d1 (by simp))))
      have HG := hid (And.intro hrg2 (And.intro hlt2 (And.intro hcu3 (And.intro hsc3 (And.intro (hkp2.trans kA) (And.intro kA hz2))))))
      have HQ := hid (And.intro h16 (And.intro hq (And.intro hlx hrg)))
      have hw2s : w2.heap.size < w3.heap.size := by rw [← hw3]; simp
      have HW := hid hw2s
      have c34 := hsc3.mp
      clear hrg2 hlt2 hg2 hs2 hcu hcu2 hcu3 hsc hsc2 hsc3 hkp hkp2 hz2 kA hrow hfew kg2 hit hkx hRy hat hF hR h16 hq hlx hrg hzr hw2s
      go_wp2_with fail
      go_region_held_law (fun w1 => w1.cell? ⟨w.heap.size, 34, none⟩ = some (.map (some X)) ∧ w1.cell? ⟨w2.heap.size, 0, none⟩ = some (.int .i64 (t : Nat)) ∧ w1.cell? ⟨w2.heap.size, 1, none⟩ = some (.int .i64 (n : Nat)))
        (first | exact CC.out _ (Kp.drew _ _) | exact CC.out _ KC.out | exact CX.out)
        (first
          | (go_at_call 49; refine (CL.out _ (Kp.drew _ _)).mono ?_; rintro e z1 ⟨V, rfl, hV, hk1⟩; have KC := hid ((Kp.drew w3 []).trans hk1); have HV := hid hV; obtain ⟨z2, hrun0, hm2, hk2, hs2⟩ := (HG.out.2.2.1.keep KC.out).m.store (t := t) (n := n) ht hn V; have hrun : (Instr.mapUpdate 59 (.map (some X)) (.agg #[.int .i64 (t : Nat), .int .i64 (n : Nat)]) V).run Try.prog z1 = .ok () z2 := hrun0; have HM := hid (And.intro hm2 hk2); have CX := hid (And.intro (hk2.cell (CC.out _ KC.out).1 (by simp; have := HS1.out; omega)) (And.intro (hk2.cell (CC.out _ KC.out).2.1 (by simp; have := HS1.out; have := HS3.out; have := HG.out.2.2.2.2.2.2; omega)) (hk2.cell (CC.out _ KC.out).2.2 (by simp; have := HS1.out; have := HS3.out; have := HG.out.2.2.2.2.2.2; omega)))); clear hrun0 hm2 hk2 hs2 hV hk1)
          | fail)
      have F := hid (show ∃ g' cap', (z2.ranges Try.prog 78 RQ mb W3.heap.size 512 D (fun z => left z && !z.sameKey (kl t n)) cnt2 ∧ Cu w z2 L X (fun z => left z && !z.sameKey (kl t n)) g' cap' ∧ Sc z2 w.heap.size T S M (pend L) X ∧ Kp w z2 [] ∧ W3.heap.size < z2.heap.size) ∧ z2.rangeLeft mb W3.heap.size < wr.rangeLeft mb W3.heap.size from by
        obtain ⟨a1, a2, a3, a4, a5, a6, a7⟩ := HG.out
        obtain ⟨b1, b2, b3, b4⟩ := HQ.out
        have x1 := HS1.out
        have x3 := HS3.out
        have k32 : Kp w3 z2 [X] := KC.out.nil.trans HM.out.2
        have k22 : Kp w2 z2 [X] := a6.nil.trans k32
        have hmx : mb ≠ X := by omega
        obtain ⟨g', cap', hc⟩ := a3.step ht hn b1 b2 b3 KC.out HV.out HM.out.1 HM.out.2 a5.size
        have hr := a1.kept k22.grown1 (by simpa using hmx) (by simp; omega)
        refine ⟨g', cap', ⟨hr, hc, a4.keep k32 (by simp; omega), a5.past k32 (by intro j hj hl; simp at hj; omega), by have := k22.size; omega⟩, ?_⟩
        rw [hr.left_eq, b4.left_eq]
        exact a2)
      clear HG HQ HM CX CC CL HV KC hrun hen d0 d1 c34
      go_wp2
      go_roundw
      case rel =>
        obtain ⟨g', cap', f1, f2⟩ := F.out
        exact ⟨_, cnt2, g', cap', hid f1⟩
      case measure =>
        obtain ⟨g', cap', f1, f2⟩ := F.out
        exact f2
end Go.Proofs.Ytoenipaccnpihaa
