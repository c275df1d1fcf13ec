/- The reference: its list in memory; may, find, Prio. -/
import Derived.Test.YtllkopekfanfaaaLi
import Derived.Deep.RegionLaw
namespace Go.Proofs.Ytllkopekfanfaaa
open Go.RowKit Go.Shelf Go.Lib Go.Sort Go.Maps

theorem dcells_take : ∀ (l : List Dl) (k : Nat), (dcells l).take (k * 2) = dcells (l.take k)
  | _, 0 => by simp [dcells]
  | [], k + 1 => by simp [dcells]
  | y :: r, k + 1 => by
    have ih := dcells_take r k
    have e : dcells (y :: r) = .int .i64 y.1 :: .int .i64 y.2 :: dcells r := rfl
    have e2 : dcells ((y :: r).take (k + 1)) = .int .i64 y.1 :: .int .i64 y.2 :: dcells (r.take k) := rfl
    rw [e, e2, ← ih, show (k + 1) * 2 = k * 2 + 1 + 1 by omega]
    rfl
/-- A view: the slice v reads as m. -/
def Vi (w : World) (v : Value) (m : List Dl) : Prop := ∃ ao cap, v = .slice ao m.length cap ∧ (∀ ad, ao = some ad → ∀ j u, (dcells m)[j]? = some u → w.cell? (ad.add j) = some u) ∧ (ao = none → m = [] ∧ cap = 0)
theorem dcells_drop (l : List Dl) (k : Nat) : dcells (l.drop k) = (dcells l).drop (k * 2) := by
  have h := congrArg (List.drop (k * 2)) (dcells_append (l.take k) (l.drop k))
  rw [List.take_append_drop] at h
  by_cases hk : k ≤ l.length
  · have e0 : (dcells (l.take k)).drop (k * 2) = [] := List.drop_eq_nil_of_le (by rw [dcells_length, List.length_take]; omega)
    rw [h, List.drop_append, e0, dcells_length, List.length_take, Nat.min_eq_left hk, Nat.sub_self]
    simp
  · rw [List.drop_eq_nil_of_le (by omega), List.drop_eq_nil_of_le (by rw [dcells_length]; omega)]
    rfl
theorem Dr.front {w : World} {base g n cap k : Nat} {l : List Dl} (h : Dr w base (.slice (some ⟨g, 0, none⟩) n cap) l) (hk : k ≤ l.length) : Vi w (.slice (some ⟨g, 0, none⟩) k cap) (l.take k) := by
  refine ⟨_, cap, by rw [List.length_take, Nat.min_eq_left hk], fun ad had j u hu => ?_, fun e => by cases e⟩
  obtain rfl : (⟨g, 0, none⟩ : Addr) = ad := by simpa using had
  have hc := h.cells
  refine hc j u ?_
  rw [← dcells_take] at hu
  have hj : j < k * 2 := by
    have := (List.getElem?_eq_some_iff.1 hu).1
    rw [List.length_take] at this
    omega
  rw [List.getElem?_take_of_lt hj] at hu
  exact hu
theorem Dr.back {w : World} {base g n cap c k m : Nat} {l : List Dl} (h : Dr w base (.slice (some ⟨g, 0, none⟩) n cap) l) (hm : m = l.length - k) : Vi w (.slice (some ⟨g, k * 2, none⟩) m c) (l.drop k) := by
  refine ⟨_, c, by rw [List.length_drop, hm], fun ad had j u hu => ?_, fun e => by cases e⟩
  obtain rfl : (⟨g, k * 2, none⟩ : Addr) = ad := by simpa using had
  have hc := h.cells
  rw [Addr.add_mid]
  have hc' := hc (k * 2 + j) u
  rw [Addr.add_mid, Nat.zero_add] at hc'
  refine hc' ?_
  rw [dcells_drop, List.getElem?_drop] at hu
  exact hu
theorem Vi.keep {w w' : World} {v : Value} {m : List Dl} (h : Vi w v m) {rows : List Nat} (hk : Kp w w' rows) (hr : ∀ ad n c, v = .slice (some ad) n c → ad.block ∉ rows ∧ ad.spot = none) : Vi w' v m := by
  obtain ⟨ao, cap, rfl, h1, h2⟩ := h
  refine ⟨ao, cap, rfl, fun ad had j u hu => ?_, h2⟩
  subst had
  obtain ⟨hb, hs⟩ := hr ad _ _ rfl
  obtain ⟨b, off, spot⟩ := ad
  simp only at hs hb
  subst hs
  have := h1 _ rfl j u hu
  rw [Addr.add_mid] at this ⊢
  exact hk.cell this hb
theorem vi_nil (w : World) : Vi w (.slice none 0 0) [] := ⟨none, 0, rfl, fun ad h => (by cases h), fun _ => ⟨rfl, rfl⟩⟩
theorem vi_empty (w : World) (g o c : Nat) : Vi w (.slice (some ⟨g, o, none⟩) 0 c) [] := ⟨_, c, rfl, fun ad _ j u hu => (by simp [dcells] at hu), fun e => (by cases e)⟩
theorem vi_one (W : World) (x1 x2 : Int) : Vi (W.alloc (.cells #[.int .i64 x1, .int .i64 x2] 103)) (.slice (some ⟨W.heap.size, 0, none⟩) 1 1) [(x1, x2)] := by
  have h : Dr (W.alloc (.cells #[.int .i64 x1, .int .i64 x2] 103)) W.heap.size (.slice (some ⟨W.heap.size, 0, none⟩) 1 1) [(x1, x2)] :=
    ⟨rfl, .inr ⟨W.heap.size, 1, _, rfl, Nat.le_refl _, heap_alloc_new W _, Nat.le_refl _, by unfold maxLen; omega, rfl, rfl⟩⟩
  exact h.front (k := 1) (Nat.le_refl _)

theorem wp_joinO {w : World} {o : Oper} {a : Act} {K : Act → World → Prop} {Q : Exit → Act → World → Prop} (s x : Operand) (ho : o.op = .call { callee := .builtin .append, args := #[s, x], argTypes := #[67, 67] })
    (base : Nat) (V VX : Value) (l m : List Dl) (hs : a.eval s = V) (hV : Dr w base V l) (hx : a.eval x = VX) (hX : Vi w VX m) (hl : l.length ≤ 1000000) (hm : m.length ≤ 1000000) (hb : base ≤ w.heap.size)
    (h : ∀ v' w', Dr w' base v' (l ++ m) → w.grownBy w' V.ownBlock → K (a.put o.dst v') w') : o.wp Try.prog a w K Q := by
  obtain ⟨i0, hi, hz0, hz1, hz2⟩ := info_parts Try.infoD
  obtain ⟨ao, cap, rfl, h1, h2⟩ := hX
  cases ao with
  | none =>
    obtain ⟨rfl, rfl⟩ := h2 rfl
    have hrun := run_append_owned_none (P := Try.prog) (w := w) base 67 o.type 103 i0 2 Try.underlying67 hi V l.length (dcells l) hV
    unfold Oper.wp
    simp [execOp, ho, resolve, invoke, builtin, hs, hx, hrun, Result.andThen]
    exact h V w (by rw [List.append_nil]; exact hV) (World.grownBy.refl _ _)
  | some ad =>
    exact wp_append_own w s x 67 ho base 103 i0 (.agg #[.int .i64 0, .int .i64 0]) 2 16 Try.underlying67 hi hz0 hz1 hz2 rfl (by decide) V l.length (dcells l) hs hV ad m.length cap (dcells m) hx (dcells_length m) (h1 ad rfl) (dcells_one m) (by unfold maxLen; omega) (by omega) hb
        fun v' w' a1 a2 _ => h v' w' (by unfold Dr; rw [List.length_append, dcells_append]; exact a1) a2
theorem wpList_joinO {w : World} {ops : Array Oper} {rest : List Oper} {o : Oper} {a : Act} {Q : Exit → Act → World → Prop} (hgd : o.guard = none) (s x : Operand) (ho : o.op = .call { callee := .builtin .append, args := #[s, x], argTypes := #[67, 67] })
    (base : Nat) (V VX : Value) (l m : List Dl) (hs : a.eval s = V) (hV : Dr w base V l) (hx : a.eval x = VX) (hX : Vi w VX m) (hl : l.length ≤ 1000000) (hm : m.length ≤ 1000000) (hb : base ≤ w.heap.size)
    (h : ∀ v' w', Dr w' base v' (l ++ m) → w.grownBy w' V.ownBlock → wpList Try.prog ops Q rest (a.put o.dst v') w') : wpList Try.prog ops Q (o :: rest) a w :=
  wpList_plain hgd fun _ hK => wp_joinO s x ho base V VX l m hs hV hx hX hl hm hb fun v' w' h1 h2 => hK _ _ (h v' w' h1 h2)
theorem step_joinO {w : World} {ops : Array Oper} {o : Oper} {a : Act} {K : Act → World → Prop} {Q : Exit → Act → World → Prop} {E : Prop} (hgd : o.guard = none) (s x : Operand) (ho : o.op = .call { callee := .builtin .append, args := #[s, x], argTypes := #[67, 67] }) (D : Nat) (hD : o.dst = some D)
    (base : Nat) (V VX : Value) (l m : List Dl) (hs : a.eval s = V) (hV : Dr w base V l) (hx : a.eval x = VX) (hX : Vi w VX m) (hl : l.length ≤ 1000000) (hm : m.length ≤ 1000000) (hb : base ≤ w.heap.size)
    (h : ∀ v' w', Dr w' base v' (l ++ m) → w.grownBy w' V.ownBlock → K (a.put (some D) v') w') :
    if Region.wanted o (yielded ops a.tmps) = true then Oper.wp Try.prog o a w K Q else E := by
  have hw : Region.wanted o (yielded ops a.tmps) = true := by simp [Region.wanted, hgd]
  rw [if_pos hw]
  rw [← hD] at h
  exact wp_joinO s x ho base V VX l m hs hV hx hX hl hm hb h


/-- The reference's list at block rb holds L. -/
def Rf (w : World) (rb : Nat) (L : List Dl) : Prop := ∃ v, w.heap[rb]? = some (.cells #[v] 69 (0, 0)) ∧ Dr w 0 v L
theorem Rf.keep {w w' : World} {rb : Nat} {L : List Dl} (h : Rf w rb L) (hk : Kp w w' []) : Rf w' rb L := by
  obtain ⟨v, h1, h2⟩ := h
  exact ⟨v, (hk.block rb (lt_of_block h1) (by simp)).trans h1, h2.keep hk⟩
theorem Rf.lt {w : World} {rb : Nat} {L : List Dl} (h : Rf w rb L) : rb < w.heap.size := by
  obtain ⟨v, h1, -⟩ := h
  exact lt_of_block h1
/-- Kept by a call that writes blocks of other kinds. -/
theorem Rf.off {w w' : World} {rb : Nat} {L : List Dl} (h : Rf w rb L) {rws : List Nat} (hk : Kp w w' rws) (hr : ∀ k ∈ rws, ∀ c, w.heap[k]? ≠ some (.cells c 69 (0, 0)) ∧ w.heap[k]? ≠ some (.cells c 103 (0, 0))) : Rf w' rb L := by
  obtain ⟨v, h1, h2⟩ := h
  refine ⟨v, (hk.block rb (lt_of_block h1) (fun hm => (hr rb hm _).1 h1)).trans h1, h2.kp hk fun g hg hm => ?_⟩
  obtain ⟨-, cur, hcur⟩ := owns_block h2 hg
  exact (hr g hm _).2 hcur
/-- Its list is laid down anew. -/
theorem Rf.set {w w1 : World} {rb : Nat} {L M : List Dl} (h : Rf w rb L) (hk : Kp w w1 []) {v : Value} (hV : Dr w1 0 v M) : Rf (w1.setCell ⟨rb, 0, none⟩ v) rb M ∧ Kp w (w1.setCell ⟨rb, 0, none⟩ v) [rb] := by
  obtain ⟨v0, h1, -⟩ := h
  have hb := (hk.block rb (lt_of_block h1) (by simp)).trans h1
  refine ⟨⟨v, set_one hb, hV.kp (Kp.setCell w1 ⟨rb, 0, none⟩ v) fun g hg => ?_⟩, (hk.nil (r := [rb])).trans (Kp.setCell w1 ⟨rb, 0, none⟩ v)⟩
  obtain ⟨-, cur, hcur⟩ := owns_block hV hg
  simp
  exact fun e => block_ne hcur hb (by decide) e
set_option maxRecDepth 100000 in
theorem rmay_any (w : World) (t p : Int) : Calls Try.prog 83 #[.int .i64 t, .int .i64 p] w fun e w' => e = .returned (.bool (mayT t && mayP p)) ∧ w' = w := by
  by_cases h0 : 0 ≤ t <;> by_cases h1 : t < 16 <;> by_cases h2 : 1 ≤ p <;> by_cases h3 : p ≤ 31
  all_goals (
    go_enter Try.func83, Try.ntmps83
    go_wp2
    go_ret
    exact ⟨by simp [mayT, mayP, h0, h1, h2, h3], rfl⟩)
/-- What find tells. -/
def Fd (L : List Dl) (t r : Int) : Prop := (r = -1 ∧ hasP L t = false) ∨ ∃ i : Nat, r = i ∧ i < L.length ∧ L[i]!.1 = t
set_option maxRecDepth 100000 in
theorem find_any (w : World) (rb : Nat) (L : List Dl) (t : Int) (h : Rf w rb L) (hl : L.length ≤ 100000) : Calls Try.prog 84 #[.pointer (some ⟨rb, 0, none⟩), .int .i64 t] w fun e w' => ∃ r, e = .returned (.int .i64 r) ∧ Fd L t r ∧ w' = w := by
  obtain ⟨v, hb, hd⟩ := h
  obtain ⟨ao, cap, rfl⟩ := hd.slice
  obtain ⟨N, hN⟩ : ∃ N, L.length = N := ⟨_, rfl⟩
  rw [hN] at hb hl
  have cc := cell_one hb
  have HD := hid hd
  rw [hN] at HD
  have HN := hid hN
  clear hb hd hN
  go_enter Try.func84, Try.ntmps84
  go_wp2_with fail
  go_loopw [5] (fun vi wr => ∃ i : Nat, i ≤ N ∧ vi = .int .i64 i ∧ wr = w ∧ Hid (∀ j, j < i → L[j]!.1 ≠ t)) (fun vi _ => N - (intOf vi).toNat)
  case atStart => exact ⟨0, by omega, rfl, rfl, hid (fun j hj => by omega)⟩
  case round =>
    obtain ⟨i, hi, rfl, rfl, hA⟩ := hrel
    by_cases hlt : i < N
    · have hltI : (i : Int) < N := by omega
      have hil : i < L.length := by have := HN.out; omega
      obtain ⟨x1, x2, hx⟩ : ∃ x1 x2, L[i]! = (x1, x2) := ⟨L[i]!.1, L[i]!.2, rfl⟩
      obtain ⟨g, rfl, c1, c2, -, -⟩ := HD.out.at hil hx
      by_cases he : x1 = t
      · have heI : (x1 == t) = true := by simp [he]
        have HF := hid (show Fd L t (i : Int) from .inr ⟨i, rfl, hil, by rw [hx]; exact he⟩)
        clear he hx hA
        go_wp2
        go_ret
        exact ⟨_, rfl, HF.out, rfl⟩
      · have heI : (x1 == t) = false := by simp [he]
        have HA2 := hid (show ∀ j, j < i + 1 → L[j]!.1 ≠ t from fun j hj => by
          by_cases q : j < i
          · exact hA.out j q
          · rw [show j = i by omega, hx]; exact he)
        clear he hx hA
        go_wp2
        go_roundw
        case rel => exact ⟨i + 1, by omega, by simp, by trivial, HA2⟩
        case measure => simp [intOf]; omega
    · have hltI : ¬ (i : Int) < N := by omega
      have HF := hid (show Fd L t (-1) from .inl ⟨rfl, has_none.2 (fun hm => by
        obtain ⟨x, hx, e⟩ := List.mem_map.1 hm
        obtain ⟨j, hj, e2⟩ := List.getElem_of_mem hx
        have hjl : j < L.length := hj
        refine hA.out j (by have := HN.out; omega) ?_
        rw [getElem!_pos L j hjl, e2, e])⟩)
      clear hA
      go_wp2
      go_ret
      exact ⟨_, rfl, HF.out, rfl⟩
theorem Fd.neg {L : List Dl} {t r : Int} (h : Fd L t r) : decide (r < 0) = !hasP L t := by
  rcases h with ⟨rfl, e⟩ | ⟨i, rfl, hi, e⟩
  · rw [e]; rfl
  · have : hasP L t = true := mem_has.2 ⟨L[i]!, by rw [getElem!_pos L i hi]; exact List.getElem_mem hi, e⟩
    rw [this]; simp
set_option maxRecDepth 100000 in
theorem rprio_any (w : World) (rb : Nat) (L : List Dl) (t : Int) (h : Rf w rb L) (hok : okL L) : Calls Try.prog 66 #[.pointer (some ⟨rb, 0, none⟩), .int .i64 t] w fun e w' => e = .returned (.tuple #[.int .i64 (getP L t), .bool (hasP L t)]) ∧ w' = w := by
  have HF := hid (find_any w rb L t h (by have := hok.len; omega))
  obtain ⟨v, hb, hd⟩ := h
  obtain ⟨ao, cap, rfl⟩ := hd.slice
  have cc := cell_one hb
  have HD := hid hd
  have HG := hid (fun x hx => get_of_mem (x := x) hok.one hx)
  have HZ := hid (get_none (L := L) (t := t))
  obtain ⟨N, hN⟩ : ∃ N, L.length = N := ⟨_, rfl⟩
  rw [hN] at cc HD
  have HN := hid hN
  have hNl : N ≤ 16 := by have := hok.len; omega
  clear hb hd hok hN
  go_enter Try.func66, Try.ntmps66
  go_wp2_with fail
  refine HF.out.mono ?_
  rintro e w1 ⟨r, rfl, hF, rfl⟩
  rcases hF with ⟨rfl, hB⟩ | ⟨i, rfl, hi, he⟩
  · have HE := hid (And.intro (HZ.out hB) hB)
    clear hB
    go_wp2
    go_ret2
    exact ⟨by rw [HE.out.1, HE.out.2]; rfl, rfl⟩
  · obtain ⟨x1, x2, hx⟩ : ∃ x1 x2, L[i]! = (x1, x2) := ⟨L[i]!.1, L[i]!.2, rfl⟩
    obtain ⟨g, rfl, c1, c2, -, -⟩ := HD.out.at hi hx
    have hm : (x1, x2) ∈ L := by rw [← hx, getElem!_pos L i hi]; exact List.getElem_mem hi
    rw [hx] at he
    simp only at he
    subst he
    have HE := hid (And.intro (HG.out _ hm) (show hasP L x1 = true from mem_has.2 ⟨_, hm, rfl⟩))
    have hiN : (i : Int) < N := by have := HN.out; omega
    have hi0 : ¬ (i : Int) < 0 := by omega
    clear hx hm hi
    go_wp2
    go_ret2
    exact ⟨by rw [HE.out.1, HE.out.2]; rfl, rfl⟩
end Go.Proofs.Ytllkopekfanfaaa
