/- The reference: its lists in memory; Prio. -/
import Derived.Test.YtfhbcigeoagedaaKnown
namespace Go.Proofs.Ytfhbcigeoagedaa
open Go.RowKit Go.Shelf

theorem Ns.cells {w : World} {base : Nat} {ad : Addr} {m cap : Nat} {l : List Nat} (h : Ns w base (.slice (some ad) m cap) l) : ∀ (j : Nat) (u : Value), (ni l)[j]? = some u → w.cell? (ad.add j) = some u := by
  intro j u hu
  cases hx : l[j]? with
  | none => simp [ni, hx] at hu
  | some x =>
    obtain ⟨g, e, -, -, hc⟩ := h.at hx
    cases e
    rw [Addr.add_mid]
    simp [ni, hx] at hu
    subst hu
    simpa using hc
theorem ni_one (l : List Nat) : ∀ u ∈ ni l, u.oneCell' = true := by
  intro u hu
  obtain ⟨x, -, rfl⟩ := List.mem_map.1 hu
  rfl
/-- One list laid behind another. -/
theorem wp_join {w : World} {o : Oper} {a : Act} {K : Act → World → Prop} {Q : Exit → Act → World → Prop} (s x : Operand) (ho : o.op = .call { callee := .builtin .append, args := #[s, x], argTypes := #[26, 26] })
    (base b2 : Nat) (V VX : Value) (l m : List Nat) (hs : a.eval s = V) (hV : Ns w base V l) (hx : a.eval x = VX) (hX : Ns w b2 VX m) (hl : l.length ≤ 1000) (hm : m.length ≤ 1000) (hb : base ≤ w.heap.size)
    (h : ∀ v' w', Ns w' base v' (l ++ m) → w.grownBy w' V.ownBlock → K (a.put o.dst v') w') : o.wp Try.prog a w K Q := by
  obtain ⟨i0, hi, hz0, hz1, hz2⟩ := info_parts Try.infoI
  obtain ⟨ao, cap, rfl⟩ := hX.slice
  by_cases hm0 : m = []
  · have e := hX.2 hm0
    rw [e] at hx
    have hrun := run_append_owned_none (P := Try.prog) (w := w) base 26 o.type 3 i0 1 Try.underlying26 hi V l.length (ni l) hV.1
    unfold Oper.wp
    simp [execOp, ho, resolve, invoke, builtin, hs, hx, hrun, Result.andThen]
    exact h V w (by rw [hm0, List.append_nil]; exact hV) (World.grownBy.refl _ _)
  · cases ao with
    | none =>
      obtain ⟨y, hy⟩ : ∃ y, m[0]? = some y := by cases m with | nil => exact absurd rfl hm0 | cons y m => exact ⟨y, rfl⟩
      obtain ⟨g, e, -⟩ := hX.at hy
      cases e
    | some ad =>
      exact wp_append_own w s x 26 ho base 3 i0 (.int .i64 0) 1 8 Try.underlying26 hi hz0 hz1 hz2 rfl (by decide) V l.length (ni l) hs hV.1 ad m.length cap (ni m) hx (by simp [ni]) hX.cells (ni_one m) (by unfold maxLen; omega) (by omega) hb
        fun v' w' a1 a2 _ => h v' w' ⟨by simpa [ni] using a1, by simp [hm0]⟩ a2
theorem wpList_join {w : World} {ops : Array Oper} {rest : List Oper} {o : Oper} {a : Act} {Q : Exit → Act → World → Prop} (hgd : o.guard = none) (s x : Operand) (ho : o.op = .call { callee := .builtin .append, args := #[s, x], argTypes := #[26, 26] })
    (base b2 : Nat) (V VX : Value) (l m : List Nat) (hs : a.eval s = V) (hV : Ns w base V l) (hx : a.eval x = VX) (hX : Ns w b2 VX m) (hl : l.length ≤ 1000) (hm : m.length ≤ 1000) (hb : base ≤ w.heap.size)
    (h : ∀ v' w', Ns w' base v' (l ++ m) → w.grownBy w' V.ownBlock → wpList Try.prog ops Q rest (a.put o.dst v') w') : wpList Try.prog ops Q (o :: rest) a w :=
  wpList_plain hgd fun _ hK => wp_join s x ho base b2 V VX l m hs hV hx hX hl hm hb fun v' w' h1 h2 => hK _ _ (h v' w' h1 h2)
theorem step_join {w : World} {ops : Array Oper} {o : Oper} {a : Act} {K : Act → World → Prop} {Q : Exit → Act → World → Prop} {E : Prop} (hgd : o.guard = none) (s x : Operand) (ho : o.op = .call { callee := .builtin .append, args := #[s, x], argTypes := #[26, 26] }) (D : Nat) (hD : o.dst = some D)
    (base b2 : Nat) (V VX : Value) (l m : List Nat) (hs : a.eval s = V) (hV : Ns w base V l) (hx : a.eval x = VX) (hX : Ns w b2 VX m) (hl : l.length ≤ 1000) (hm : m.length ≤ 1000) (hb : base ≤ w.heap.size)
    (h : ∀ v' w', Ns w' base v' (l ++ m) → w.grownBy w' V.ownBlock → K (a.put (some D) v') w') :
    if Region.wanted o (yielded ops a.tmps) = true then Oper.wp Try.prog o a w K Q else E := by
  have hw : Region.wanted o (yielded ops a.tmps) = true := by simp [Region.wanted, hgd]
  rw [if_pos hw]
  rw [← hD] at h
  exact wp_join s x ho base b2 V VX l m hs hV hx hX hl hm hb h

/-! ### The reference's lists -/
def vcl (F : Nat → Value) : Nat → Nat → List Value
  | 0, _ => []
  | k + 1, i => F i :: vcl F k (i + 1)
theorem vcl_length (F : Nat → Value) (k i : Nat) : (vcl F k i).length = k := by
  induction k generalizing i with
  | zero => rfl
  | succ k ih => simp [vcl, ih]
theorem vcl_at (F : Nat → Value) (k i j : Nat) (hj : j < k) : (vcl F k i)[j]? = some (F (i + j)) := by
  induction k generalizing i j with
  | zero => omega
  | succ k ih =>
    cases j with
    | zero => simp [vcl]
    | succ j =>
      simp only [vcl, List.getElem?_cons_succ]
      rw [ih (i + 1) j (by omega), show i + (j + 1) = i + 1 + j by omega]
def updV (F : Nat → Value) (i : Nat) (v : Value) : Nat → Value := fun j => if j = i then v else F j
theorem vcl_set (F : Nat → Value) (k j : Nat) (v : Value) (hj : j < k) : (vcl F k 0).set j v = vcl (updV F j v) k 0 := by
  apply List.ext_getElem?
  intro n
  rw [List.getElem?_set]
  rcases Nat.lt_or_ge n k with hn | hn
  · rw [vcl_at _ k 0 n hn, Nat.zero_add]
    by_cases e : j = n
    · subst e
      rw [if_pos rfl, if_pos (by rw [vcl_length]; exact hj)]
      rw [vcl_at _ k 0 j hj, Nat.zero_add]
      simp [updV]
    · rw [if_neg e, vcl_at _ k 0 n hn, Nat.zero_add]
      have : n ≠ j := fun h => e h.symm
      simp [updV, this]
  · rw [List.getElem?_eq_none (by rw [vcl_length]; exact hn)]
    by_cases e : j = n
    · omega
    · rw [if_neg e, List.getElem?_eq_none (by rw [vcl_length]; exact hn)]
/-- The reference at block qb: the sequences L. -/
def Rq (w : World) (qb : Nat) (L : Ls) : Prop := ∃ F : Nat → Value, w.heap[qb]? = some (.cells (vcl F 32 0).toArray 29 (0, 0)) ∧ ∀ p, p < 32 → Ns w 0 (F p) (L p)
theorem ns_ne {w : World} {base qb t : Nat} {c : Array Value} {V : Value} {l : List Nat} (h : Ns w base V l) (hq : w.heap[qb]? = some (.cells c t (0, 0))) (ht : t ≠ 3) {g : Nat} (hg : V.ownBlock = some g) : g ≠ qb := by
  obtain ⟨-, cur, hc⟩ := owns_block h.1 hg
  exact fun e => block_ne hq hc ht e.symm
theorem Rq.kept {w w' : World} {qb : Nat} {L : Ls} {rows : List Nat} (h : Rq w qb L) (hk : Kp w w' rows) (hq : qb ∉ rows) (hr : ∀ r ∈ rows, ∃ c t, w.heap[r]? = some (.cells c t (0, 0)) ∧ t ≠ 3) : Rq w' qb L := by
  obtain ⟨F, h1, h2⟩ := h
  refine ⟨F, (hk.block qb (lt_of_block h1) hq).trans h1, fun p hp => (h2 p hp).kp hk fun g hg hm => ?_⟩
  obtain ⟨c, t, hc, ht⟩ := hr g hm
  exact ns_ne (h2 p hp) hc ht hg rfl
theorem Rq.keep {w w' : World} {qb : Nat} {L : Ls} (h : Rq w qb L) (hk : Kp w w' []) : Rq w' qb L := h.kept hk (by simp) (by simp)
theorem Rq.lt {w : World} {qb : Nat} {L : Ls} (h : Rq w qb L) : qb < w.heap.size := by obtain ⟨F, h1, -⟩ := h; exact lt_of_block h1
theorem Rq.cell {w : World} {qb : Nat} {F : Nat → Value} (h : w.heap[qb]? = some (.cells (vcl F 32 0).toArray 29 (0, 0))) (p : Nat) (hp : p < 32) : w.cell? ⟨qb, p, none⟩ = some (F p) := by
  rw [cell_of_row w qb p _ _ _ h]
  have := vcl_at F 32 0 p hp
  rw [Nat.zero_add] at this
  simpa using this
/-- A list is laid there anew. -/
theorem Rq.set {w w1 : World} {qb p : Nat} {L : Ls} {V : Value} {l : List Nat} (h : Rq w qb L) (hk : Kp w w1 []) (hp : p < 32) (hV : Ns w1 0 V l) : Rq (w1.setCell ⟨qb, p, none⟩ V) qb (updL L p l) ∧ Kp w (w1.setCell ⟨qb, p, none⟩ V) [qb] := by
  obtain ⟨F, h1, h2⟩ := h.keep hk
  have hk2 := Kp.setCell w1 ⟨qb, p, none⟩ V
  refine ⟨⟨updV F p V, ?_, fun q hq => ?_⟩, hk.nil.trans hk2⟩
  · rw [heap_setCell_same w1 qb p _ 29 _ h1, List.setIfInBounds_toArray, vcl_set F 32 p V hp]
  · by_cases e : q = p
    · subst e
      rw [updL_same, show updV F q V q = V by simp [updV]]
      exact hV.kp hk2 fun g hg => by simpa using ns_ne hV h1 (by decide) hg
    · rw [updL_ne _ _ e, show updV F p V q = F q by simp [updV, e]]
      exact (h2 q hq).kp hk2 fun g hg => by simpa using ns_ne (h2 q hq) h1 (by decide) hg

theorem prN_first {L : Ls} {t q k : Nat} (h1 : 1 ≤ q) (h2 : q ≤ k) (hq : t ∈ L q) (hn : ∀ p, 1 ≤ p → p < q → t ∉ L p) : prN L t k = q := by
  induction k with
  | zero => omega
  | succ k ih =>
    rw [prN]
    by_cases e : q = k + 1
    · rw [prN_none (fun p p1 p2 => hn p p1 (by omega)), if_pos rfl, if_pos (e ▸ hq), e]
    · rw [ih (by omega), if_neg (by omega)]
/-- t is not among them. -/
def Off (l : List Nat) (t : Int) : Prop := ∀ x ∈ l, (x : Int) ≠ t
theorem prI_none {L : Ls} {t : Int} (h : ∀ p, 1 ≤ p → p ≤ 31 → Off (L p) t) : prI L t = 0 := by
  unfold prI
  split
  · exact prN_none fun p h1 h2 hm => h p h1 h2 _ hm (by omega)
  · rfl
theorem prI_first {L : Ls} {t : Int} {q : Nat} (h1 : 1 ≤ q) (h2 : q ≤ 31) {x : Nat} (hx : x ∈ L q) (hxt : (x : Int) = t) (hn : ∀ p, 1 ≤ p → p < q → Off (L p) t) : prI L t = q := by
  unfold prI
  rw [if_pos (by omega), show t.toNat = x by omega]
  exact prN_first h1 h2 hx fun p p1 p2 hm => hn p p1 p2 _ hm hxt

set_option maxRecDepth 100000 in
set_option maxHeartbeats 2000000 in
theorem rprio_any (w : World) (qb : Nat) (L : Ls) (t : Int) (h : Rq w qb L) (hl : ∀ p, (L p).length ≤ 1000) : Calls Try.prog 29 #[.pointer (some ⟨qb, 0, none⟩), .int .i64 t] w fun e w' => e = .returned (.tuple #[.int .i64 (prI L t : Nat), .bool (decide (prI L t ≠ 0))]) ∧ w' = w := by
  obtain ⟨F, hF, hN⟩ := h
  have HF := hid hF
  have HN := hid hN
  clear hF hN
  go_enter Try.func29, Try.ntmps29
  go_wp2
  go_loopw [6] (fun v wr => ∃ k : Nat, 1 ≤ k ∧ k ≤ 32 ∧ v = .int .i64 k ∧ wr = w ∧ Hid (∀ p, 1 ≤ p → p < k → Off (L p) t)) (fun v _ => 32 - (intOf v).toNat)
  case atStart => exact ⟨1, Nat.le_refl _, by decide, rfl, rfl, fun p h1 h2 => by omega⟩
  case round =>
    obtain ⟨k, hk1, hk2, rfl, rfl, hO⟩ := hrel
    by_cases hlt : k ≤ 31
    · have hltI : (k : Int) ≤ 31 := by omega
      have hNk := HN.out k (by omega)
      obtain ⟨ao, cap, hv⟩ := hNk.slice
      have cF := Rq.cell HF.out k (by omega)
      rw [hv] at cF hNk
      have HNk := hid hNk
      have hlk := hl k
      clear hNk hv
      go_wp2
      go_loopw [7] (fun v wr' => ∃ i : Nat, i ≤ (L k).length ∧ v = .int .i64 i ∧ wr' = wr ∧ Hid (Off ((L k).take i) t)) (fun v _ => (L k).length - (intOf v).toNat)
      case atStart => exact ⟨0, Nat.zero_le _, rfl, rfl, by intro x hx; simp at hx⟩
      case round =>
        obtain ⟨i, hi, rfl, rfl, hT⟩ := hrel
        by_cases hil : i < (L k).length
        · have hilI : (i : Int) < ((L k).length : Int) := by omega
          have hx : (L k)[i]? = some (L k)[i] := List.getElem?_eq_getElem hil
          obtain ⟨x, hxe⟩ : ∃ x, (L k)[i] = x := ⟨_, rfl⟩
          rw [hxe] at hx
          obtain ⟨g, rfl, -, -, cx⟩ := HNk.out.at hx
          have HX := hid hx
          clear hx hxe
          by_cases hxt : (x : Int) = t
          · have heq : ((x : Int) == t) = true := by simp [hxt]
            have HE := hid (prI_first hk1 hlt (List.mem_of_getElem? HX.out) hxt hO.out)
            clear hxt
            go_wp2
            go_ret2
            refine ⟨?_, rfl⟩
            rw [HE.out]
            simp
            omega
          · have heq : ((x : Int) == t) = false := by simp [hxt]
            have HT := hid (show Off ((L k).take (i + 1)) t from fun y hy => by
              rw [List.take_add_one, HX.out] at hy
              rcases List.mem_append.1 hy with hy | hy
              · exact hT.out y hy
              · simp at hy; subst hy; exact hxt)
            clear hxt
            go_wp2
            go_roundw
            case rel => exact ⟨i + 1, by omega, by simp, by simp, HT⟩
            case measure => simp [intOf]; omega
        · have hilI : ¬ (i : Int) < ((L k).length : Int) := by omega
          have HO := hid (show ∀ p, 1 ≤ p → p < k + 1 → Off (L p) t from fun p p1 p2 => by
            by_cases e : p = k
            · subst e
              have := hT.out
              rwa [List.take_of_length_le (by omega)] at this
            · exact hO.out p p1 (by omega))
          go_wp2
          go_roundw
          case rel => exact ⟨k + 1, by omega, by omega, by simp, by simp, HO⟩
          case measure => simp [intOf]; omega
    · have hltI : ¬ (k : Int) ≤ 31 := by omega
      have HE := hid (show prI L t = 0 from prI_none fun p p1 p2 => hO.out p p1 (by omega))
      go_wp2
      go_ret2
      exact ⟨by rw [HE.out]; rfl, rfl⟩
end Go.Proofs.Ytfhbcigeoagedaa
