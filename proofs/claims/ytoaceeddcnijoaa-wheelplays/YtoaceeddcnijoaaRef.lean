/- The reference: its list in memory, append, At. -/
import Derived.Test.YtoaceeddcnijoaaKnown
namespace Go.Proofs.Ytoaceeddcnijoaa
open Go.RowKit Go.Shelf Go.Lib Go.Sort

theorem Try.infoO : (Try.prog.info? 45).map (fun i => (i.zero, i.size, i.bytes)) = some (some (.agg #[.int .i64 0, .int .i64 0]), 2, 16) := by kernel_rfl
/-- The slice v holds l, in a block of its own from base on (the reference's). -/
def Or (W : World) (base : Nat) (v : Value) (l : List Dl) : Prop := W.ownsRow base 45 2 v l.length (dcells l)
theorem Or.nil (W : World) (base : Nat) : Or W base (.slice none 0 0) [] := ⟨rfl, .inl ⟨rfl, rfl⟩⟩
theorem Or.kp {w w' : World} {base : Nat} {v : Value} {l : List Dl} {rows : List Nat} (h : Or w base v l) (hk : Kp w w' rows) (hr : ∀ g, v.ownBlock = some g → g ∉ rows) : Or w' base v l := owns_kp h hk hr
theorem Or.keep {w w' : World} {base : Nat} {v : Value} {l : List Dl} (h : Or w base v l) (hk : Kp w w' []) : Or w' base v l := h.kp hk (by simp)
theorem Or.slice {w : World} {base : Nat} {v : Value} {l : List Dl} (h : Or w base v l) : ∃ ao cap, v = .slice ao l.length cap := owns_shape h
theorem Or.low {w : World} {base base' : Nat} {v : Value} {l : List Dl} (h : Or w base v l) (hb : base' ≤ base) : Or w base' v l := owns_low h hb
/-- A view: the slice v reads as m. -/
def Vi (w : World) (v : Value) (m : List Dl) : Prop := ∃ ao cap, v = .slice ao m.length cap ∧ (∀ ad, ao = some ad → ∀ j u, (dcells m)[j]? = some u → w.cell? (ad.add j) = some u) ∧ (ao = none → m = [] ∧ cap = 0)
theorem Or.cells {w : World} {base : Nat} {g m cap : Nat} {l : List Dl} (h : Or w base (.slice (some ⟨g, 0, none⟩) m cap) l) : m = l.length ∧ l.length ≤ cap ∧ ∀ j u, (dcells l)[j]? = some u → w.cell? ⟨g, j, none⟩ = some u := by
  rcases h.2 with ⟨hv, h0⟩ | ⟨g', cp, cur, hv, hb, hg, hnc, hcm, hcs, htk⟩
  · cases hv
  · simp only [Value.slice.injEq, Option.some.injEq, Addr.mk.injEq, and_true] at hv
    obtain ⟨rfl, rfl, rfl⟩ := hv
    refine ⟨rfl, hnc, fun j u hu => ?_⟩
    have hj : j < (dcells l).length := (List.getElem?_eq_some_iff.1 hu).1
    rw [dcells_length] at hj
    rw [h.cellAt j hj, hu]
theorem Or.some_of {w : World} {base : Nat} {ad : Addr} {m cap : Nat} {l : List Dl} (h : Or w base (.slice (some ad) m cap) l) : ∃ g, ad = ⟨g, 0, none⟩ := by
  rcases h.2 with ⟨hv, h0⟩ | ⟨g', cp, cur, hv, -⟩
  · cases hv
  · simp only [Value.slice.injEq, Option.some.injEq] at hv
    exact ⟨g', hv.1⟩
theorem Or.none_of {w : World} {base : Nat} {m cap : Nat} {l : List Dl} (h : Or w base (.slice none m cap) l) : l = [] ∧ m = 0 ∧ cap = 0 := by
  rcases h.2 with ⟨hv, h0⟩ | ⟨g', cp, cur, hv, -⟩
  · simp only [Value.slice.injEq, true_and] at hv
    exact ⟨List.length_eq_zero_iff.1 h0, hv.1, hv.2⟩
  · cases hv
theorem Or.at {w : World} {base : Nat} {l : List Dl} {ao : Option Addr} {N cap : Nat} (h : Or w base (.slice ao N cap) l) {i : Nat} (hi : i < l.length) : ∃ g, ao = some ⟨g, 0, none⟩ ∧ w.cell? ⟨g, i * 2, none⟩ = some (.int .i64 l[i]!.1) ∧ w.cell? ⟨g, i * 2 + 1, none⟩ = some (.int .i64 l[i]!.2) := by
  cases ao with
  | none => obtain ⟨rfl, -, -⟩ := h.none_of; simp at hi
  | some ad =>
    obtain ⟨g, rfl⟩ := h.some_of
    have hc := h.cells
    have hd := dcells_at l i hi
    exact ⟨g, rfl, hc.2.2 _ _ hd.1, hc.2.2 _ _ hd.2⟩
theorem dcells_drop (l : List Dl) (k : Nat) : dcells (l.drop k) = (dcells l).drop (k * 2) := by
  have h := congrArg (List.drop (k * 2)) (dcells_append (l.take k) (l.drop k))
  rw [List.take_append_drop] at h
  by_cases hk : k ≤ l.length
  · have e0 : (dcells (l.take k)).drop (k * 2) = [] := List.drop_eq_nil_of_le (by rw [dcells_length, List.length_take]; omega)
    rw [h, List.drop_append, e0, dcells_length, List.length_take, Nat.min_eq_left hk, Nat.sub_self]
    simp
  · rw [List.drop_eq_nil_of_le (by omega), List.drop_eq_nil_of_le (by rw [dcells_length]; omega)]
    rfl
theorem Or.front {w : World} {base g n cap k : Nat} {l : List Dl} (h : Or w base (.slice (some ⟨g, 0, none⟩) n cap) l) (hk : k ≤ l.length) : Vi w (.slice (some ⟨g, 0, none⟩) k cap) (l.take k) := by
  refine ⟨_, cap, by rw [List.length_take, Nat.min_eq_left hk], fun ad had j u hu => ?_, fun e => by cases e⟩
  obtain rfl : (⟨g, 0, none⟩ : Addr) = ad := by simpa using had
  have hc := h.cells.2.2
  rw [Addr.add_mid, Nat.zero_add]
  refine hc j u ?_
  rw [← dcells_take] at hu
  have hj : j < k * 2 := by
    have := (List.getElem?_eq_some_iff.1 hu).1
    rw [List.length_take] at this
    omega
  rw [List.getElem?_take_of_lt hj] at hu
  exact hu
theorem Or.back {w : World} {base g n cap c k m : Nat} {l : List Dl} (h : Or w base (.slice (some ⟨g, 0, none⟩) n cap) l) (hm : m = l.length - k) : Vi w (.slice (some ⟨g, k * 2, none⟩) m c) (l.drop k) := by
  refine ⟨_, c, by rw [List.length_drop, hm], fun ad had j u hu => ?_, fun e => by cases e⟩
  obtain rfl : (⟨g, k * 2, none⟩ : Addr) = ad := by simpa using had
  have hc := h.cells.2.2
  rw [Addr.add_mid]
  refine hc _ u ?_
  rw [dcells_drop, List.getElem?_drop] at hu
  exact hu
theorem Vi.keep {w w' : World} {v : Value} {m : List Dl} (h : Vi w v m) {rows : List Nat} (hk : Kp w w' rows) (hr : ∀ ad n c, v = .slice (some ad) n c → ad.block ∉ rows ∧ ad.spot = none) : Vi w' v m := by
  obtain ⟨ao, cap, rfl, h1, h2⟩ := h
  refine ⟨ao, cap, rfl, fun ad had j u hu => ?_, h2⟩
  subst had
  obtain ⟨hb, hs⟩ := hr ad _ _ rfl
  obtain ⟨b, off, spot⟩ := ad
  simp only at hs hb
  subst hs
  have := h1 _ rfl j u hu
  rw [Addr.add_mid] at this ⊢
  exact hk.cell this hb
theorem vi_nil (w : World) : Vi w (.slice none 0 0) [] := ⟨none, 0, rfl, fun ad h => (by cases h), fun _ => ⟨rfl, rfl⟩⟩
theorem vi_empty (w : World) (g o c : Nat) : Vi w (.slice (some ⟨g, o, none⟩) 0 c) [] := ⟨_, c, rfl, fun ad _ j u hu => (by simp [dcells] at hu), fun e => (by cases e)⟩
theorem vi_one (W : World) (x1 x2 : Int) : Vi (W.alloc (.cells #[.int .i64 x1, .int .i64 x2] 45)) (.slice (some ⟨W.heap.size, 0, none⟩) 1 1) [(x1, x2)] := by
  have h : Or (W.alloc (.cells #[.int .i64 x1, .int .i64 x2] 45)) W.heap.size (.slice (some ⟨W.heap.size, 0, none⟩) 1 1) [(x1, x2)] :=
    ⟨rfl, .inr ⟨W.heap.size, 1, _, rfl, Nat.le_refl _, heap_alloc_new W _, Nat.le_refl _, by unfold maxLen; omega, rfl, rfl⟩⟩
  exact h.front (k := 1) (Nat.le_refl _)

theorem wp_joinO {w : World} {o : Oper} {a : Act} {K : Act → World → Prop} {Q : Exit → Act → World → Prop} (s x : Operand) (ho : o.op = .call { callee := .builtin .append, args := #[s, x], argTypes := #[27, 27] })
    (base : Nat) (V VX : Value) (l m : List Dl) (hs : a.eval s = V) (hV : Or w base V l) (hx : a.eval x = VX) (hX : Vi w VX m) (hl : l.length ≤ 1000000) (hm : m.length ≤ 1000000) (hb : base ≤ w.heap.size)
    (h : ∀ v' w', Or w' base v' (l ++ m) → w.grownBy w' V.ownBlock → K (a.put o.dst v') w') : o.wp Try.prog a w K Q := by
  obtain ⟨i0, hi, hz0, hz1, hz2⟩ := info_parts Try.infoO
  obtain ⟨ao, cap, rfl, h1, h2⟩ := hX
  cases ao with
  | none =>
    obtain ⟨rfl, rfl⟩ := h2 rfl
    have hrun := run_append_owned_none (P := Try.prog) (w := w) base 27 o.type 45 i0 2 Try.underlying27 hi V l.length (dcells l) hV
    unfold Oper.wp
    simp [execOp, ho, resolve, invoke, builtin, hs, hx, hrun, Result.andThen]
    exact h V w (by rw [List.append_nil]; exact hV) (World.grownBy.refl _ _)
  | some ad =>
    exact wp_append_own w s x 27 ho base 45 i0 (.agg #[.int .i64 0, .int .i64 0]) 2 16 Try.underlying27 hi hz0 hz1 hz2 rfl (by decide) V l.length (dcells l) hs hV ad m.length cap (dcells m) hx (dcells_length m) (h1 ad rfl) (dcells_one m) (by unfold maxLen; omega) (by omega) hb
        fun v' w' a1 a2 _ => h v' w' (by unfold Or; rw [List.length_append, dcells_append]; exact a1) a2
theorem wpList_joinO {w : World} {ops : Array Oper} {rest : List Oper} {o : Oper} {a : Act} {Q : Exit → Act → World → Prop} (hgd : o.guard = none) (s x : Operand) (ho : o.op = .call { callee := .builtin .append, args := #[s, x], argTypes := #[27, 27] })
    (base : Nat) (V VX : Value) (l m : List Dl) (hs : a.eval s = V) (hV : Or w base V l) (hx : a.eval x = VX) (hX : Vi w VX m) (hl : l.length ≤ 1000000) (hm : m.length ≤ 1000000) (hb : base ≤ w.heap.size)
    (h : ∀ v' w', Or w' base v' (l ++ m) → w.grownBy w' V.ownBlock → wpList Try.prog ops Q rest (a.put o.dst v') w') : wpList Try.prog ops Q (o :: rest) a w :=
  wpList_plain hgd fun _ hK => wp_joinO s x ho base V VX l m hs hV hx hX hl hm hb fun v' w' h1 h2 => hK _ _ (h v' w' h1 h2)
theorem step_joinO {w : World} {ops : Array Oper} {o : Oper} {a : Act} {K : Act → World → Prop} {Q : Exit → Act → World → Prop} {E : Prop} (hgd : o.guard = none) (s x : Operand) (ho : o.op = .call { callee := .builtin .append, args := #[s, x], argTypes := #[27, 27] }) (D : Nat) (hD : o.dst = some D)
    (base : Nat) (V VX : Value) (l m : List Dl) (hs : a.eval s = V) (hV : Or w base V l) (hx : a.eval x = VX) (hX : Vi w VX m) (hl : l.length ≤ 1000000) (hm : m.length ≤ 1000000) (hb : base ≤ w.heap.size)
    (h : ∀ v' w', Or w' base v' (l ++ m) → w.grownBy w' V.ownBlock → K (a.put (some D) v') w') :
    if Region.wanted o (yielded ops a.tmps) = true then Oper.wp Try.prog o a w K Q else E := by
  have hw : Region.wanted o (yielded ops a.tmps) = true := by simp [Region.wanted, hgd]
  rw [if_pos hw]
  rw [← hD] at h
  exact wp_joinO s x ho base V VX l m hs hV hx hX hl hm hb h

/-- The reference's wheel at block rb holds L. -/
def Rf (w : World) (rb : Nat) (L : List Dl) : Prop := ∃ v, w.heap[rb]? = some (.cells #[v] 29 (0, 0)) ∧ Or w 0 v L
theorem Rf.keep {w w' : World} {rb : Nat} {L : List Dl} (h : Rf w rb L) (hk : Kp w w' []) : Rf w' rb L := by
  obtain ⟨v, h1, h2⟩ := h
  exact ⟨v, (hk.block rb (lt_of_block h1) (by simp)).trans h1, h2.keep hk⟩
/-- Kept by a call that writes blocks of other kinds. -/
theorem Or.off {w w' : World} {base : Nat} {v : Value} {L : List Dl} (h2 : Or w base v L) {rws : List Nat} (hk : Kp w w' rws) (hr : ∀ k ∈ rws, ∃ c t, w.heap[k]? = some (.cells c t (0, 0)) ∧ t ≠ 29 ∧ t ≠ 45) : Or w' base v L := by
  refine h2.kp hk fun g hg hm => ?_
  obtain ⟨-, cur, hcur⟩ := owns_block h2 hg
  obtain ⟨c, t, hc, ht⟩ := hr g hm
  exact block_ne hcur hc (fun e => ht.2 e.symm) rfl
theorem Rf.off {w w' : World} {rb : Nat} {L : List Dl} (h : Rf w rb L) {rws : List Nat} (hk : Kp w w' rws) (hr : ∀ k ∈ rws, ∃ c t, w.heap[k]? = some (.cells c t (0, 0)) ∧ t ≠ 29 ∧ t ≠ 45) : Rf w' rb L := by
  obtain ⟨v, h1, h2⟩ := h
  refine ⟨v, (hk.block rb (lt_of_block h1) (fun hm => ?_)).trans h1, h2.off hk hr⟩
  obtain ⟨c, t, hc, ht⟩ := hr rb hm
  exact block_ne h1 hc (fun e => ht.1 e.symm) rfl
theorem Rf.over {w w' : World} {rb : Nat} {L : List Dl} (h : Rf w rb L) {rws : List Nat} (hk : Kp w w' rws) (hr : ∀ k ∈ rws, ∃ c t, w.heap[k]? = some (.cells c t (0, 0)) ∧ (t = 50 ∨ t = 69)) : Rf w' rb L :=
  h.off hk fun k hm => by
    obtain ⟨c, t, hc, ht⟩ := hr k hm
    exact ⟨c, t, hc, by rcases ht with rfl | rfl <;> decide, by rcases ht with rfl | rfl <;> decide⟩
theorem Rf.lt {w : World} {rb : Nat} {L : List Dl} (h : Rf w rb L) : rb < w.heap.size := by
  obtain ⟨v, h1, -⟩ := h
  exact lt_of_block h1
theorem Rf.kind {w : World} {rb : Nat} {L : List Dl} (h : Rf w rb L) : ∃ c, w.heap[rb]? = some (.cells c 29 (0, 0)) := by
  obtain ⟨v, h1, -⟩ := h
  exact ⟨_, h1⟩
/-- Its list is laid down anew. -/
theorem Rf.set {w w1 : World} {rb : Nat} {L M : List Dl} (h : Rf w rb L) (hk : Kp w w1 []) {v : Value} (hV : Or w1 0 v M) : Rf (w1.setCell ⟨rb, 0, none⟩ v) rb M ∧ Kp w (w1.setCell ⟨rb, 0, none⟩ v) [rb] := by
  obtain ⟨v0, h1, -⟩ := h
  have hb := (hk.block rb (lt_of_block h1) (by simp)).trans h1
  refine ⟨⟨v, set_one hb, hV.kp (Kp.setCell w1 ⟨rb, 0, none⟩ v) fun g hg => ?_⟩, (hk.nil (r := [rb])).trans (Kp.setCell w1 ⟨rb, 0, none⟩ v)⟩
  obtain ⟨-, cur, hcur⟩ := owns_block hV hg
  simp only [List.mem_singleton]
  exact fun e => block_ne hb hcur (by decide) e.symm

theorem atV_find {id : Int} {L : List Dl} {i : Nat} (hi : i < L.length) (hno : ∀ d ∈ L.take i, (d.1 == id) = false) (h : (L[i]!.1 == id) = true) : L.find? (fun d => d.1 == id) = some L[i]! := by
  have e : L = L.take i ++ [L[i]!] ++ L.drop (i + 1) := by
    have h1 : L.take (i + 1) = L.take i ++ [L[i]!] := by
      rw [List.take_add_one, List.getElem?_eq_getElem hi]; simp [hi]
    rw [← h1, List.take_append_drop]
  conv => lhs; rw [e]
  exact find_some hno h
theorem take_dl {L : List Dl} {i : Nat} (hi : i < L.length) : L.take (i + 1) = L.take i ++ [L[i]!] := by
  rw [List.take_add_one, List.getElem?_eq_getElem hi]; simp [hi]

set_option maxRecDepth 100000 in
set_option maxHeartbeats 1000000 in
theorem rat_any (w : World) (rb : Nat) (L : List Dl) (id : Int) (h : Rf w rb L) (hl : L.length ≤ 1000) : Calls Try.prog 24 #[.pointer (some ⟨rb, 0, none⟩), .int .i64 id] w fun e w' => e = .returned (.tuple #[.int .i64 (atV id L), .bool (hasV id L)]) ∧ Kp w w' [] := by
  obtain ⟨v, hb, hO⟩ := h
  obtain ⟨ao, cap, rfl⟩ := hO.slice
  obtain ⟨N, hN⟩ : ∃ N, L.length = N := ⟨_, rfl⟩
  rw [hN] at hb hO hl
  have cc := cell_one hb
  have HO := hid hO
  have HN := hid hN
  clear hb hO hN
  go_enter Try.func24, Try.ntmps24
  go_wp2_with fail
  go_loopw [6] (fun vi wr => ∃ i : Nat, i ≤ N ∧ vi = .int .i64 i ∧ wr = w ∧ Hid (∀ d ∈ L.take i, (d.1 == id) = false)) (fun vi _ => N - (intOf vi).toNat)
  case atStart => exact ⟨0, by omega, rfl, rfl, hid (by simp)⟩
  case round =>
    obtain ⟨i, hi, rfl, hwr, hno⟩ := hrel
    subst hwr
    by_cases hlt : i < N
    · have hltI : (i : Int) < N := by omega
      have hil : i < L.length := by have := HN.out; omega
      obtain ⟨g, rfl, d1, d2⟩ := HO.out.at hil
      obtain ⟨x, hx⟩ : ∃ x, L[i]! = x := ⟨_, rfl⟩
      rw [hx] at d1 d2
      cases hq : (x.1 == id) with
      | true =>
        have e := atV_find hil hno.out (by rw [hx]; exact hq)
        rw [hx] at e
        have E1 := hid (show atV id L = x.2 by unfold atV; rw [e]; rfl)
        have E2 := hid (show hasV id L = true by unfold hasV; rw [e]; rfl)
        clear e hx hil
        go_wp2
        go_ret2
        exact ⟨by rw [E1.out, E2.out]; rfl, Kp.refl _ _⟩
      | false =>
        have hno' := hid (show ∀ d ∈ L.take (i + 1), (d.1 == id) = false by
          rw [take_dl hil, hx]
          intro d hd
          rcases List.mem_append.1 hd with q | q
          · exact hno.out d q
          · rw [List.mem_singleton.1 q]; exact hq)
        clear hno hx hil
        go_wp2
        go_roundw
        case rel => exact ⟨i + 1, by omega, by simp, trivial, hno'⟩
        case measure => simp [intOf]; omega
    · have hltI : ¬ (i : Int) < N := by omega
      have e := find_none (id := id) (Z := L) (by
        have := hno.out
        rw [List.take_of_length_le (by have := HN.out; omega)] at this
        exact this)
      have E1 := hid (show atV id L = 0 by unfold atV; rw [e]; rfl)
      have E2 := hid (show hasV id L = false by unfold hasV; rw [e]; rfl)
      clear e hno
      go_wp2
      go_ret2
      exact ⟨by rw [E1.out, E2.out]; rfl, Kp.refl _ _⟩
end Go.Proofs.Ytoaceeddcnijoaa
