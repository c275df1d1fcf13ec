/- The reference: All. -/
import Derived.Test.YtfhbcigeoagedaaDo
namespace Go.Proofs.Ytfhbcigeoagedaa
open Go.RowKit Go.Shelf

theorem Try.infoP : (Try.prog.info? 63).map (fun i => (i.zero, i.size, i.bytes)) = some (some (.agg #[.int .i64 0, .int .i64 0]), 2, 16) := by kernel_rfl
/-- Pairs as cells. -/
def pcs : List (Nat × Nat) → List Value
  | [] => []
  | x :: l => .int .i64 (x.1 : Nat) :: .int .i64 (x.2 : Nat) :: pcs l
theorem pcs_length (l : List (Nat × Nat)) : (pcs l).length = l.length * 2 := by
  induction l with
  | nil => rfl
  | cons x l ih => simp [pcs, ih]; omega
theorem pcs_append (l m : List (Nat × Nat)) : pcs (l ++ m) = pcs l ++ pcs m := by
  induction l with
  | nil => rfl
  | cons x l ih => simp [pcs, ih]
theorem pcs_at {l : List (Nat × Nat)} {k : Nat} {x : Nat × Nat} (h : l[k]? = some x) : (pcs l)[k * 2]? = some (.int .i64 (x.1 : Nat)) ∧ (pcs l)[k * 2 + 1]? = some (.int .i64 (x.2 : Nat)) := by
  induction l generalizing k with
  | nil => simp at h
  | cons y l ih =>
    cases k with
    | zero => simp at h; subst h; simp [pcs]
    | succ k =>
      have := ih (k := k) (by simpa using h)
      rw [show (k + 1) * 2 = k * 2 + 1 + 1 by omega, show k * 2 + 1 + 1 + 1 = (k * 2 + 1) + 1 + 1 by omega]
      simp only [pcs, List.getElem?_cons_succ]
      exact this
def Ps (w : World) (base : Nat) (V : Value) (l : List (Nat × Nat)) : Prop := w.ownsRow base 63 2 V l.length (pcs l)
theorem Ps.nil (w : World) (base : Nat) : Ps w base (.slice none 0 0) [] := ⟨rfl, .inl ⟨rfl, rfl⟩⟩
theorem Ps.slice {w : World} {base : Nat} {V : Value} {l : List (Nat × Nat)} (h : Ps w base V l) : ∃ ao cap, V = .slice ao l.length cap := owns_shape h
theorem Ps.keep {w w' : World} {base : Nat} {V : Value} {l : List (Nat × Nat)} (h : Ps w base V l) (hk : Kp w w' []) : Ps w' base V l := owns_kp h hk (by simp)
theorem Ps.at {w : World} {base : Nat} {ao : Option Addr} {m cap : Nat} {l : List (Nat × Nat)} (h : Ps w base (.slice ao m cap) l) {k : Nat} {x : Nat × Nat} (hk : l[k]? = some x) :
    ∃ g, ao = some ⟨g, 0, none⟩ ∧ w.cell? ⟨g, k * 2, none⟩ = some (.int .i64 (x.1 : Nat)) ∧ w.cell? ⟨g, k * 2 + 1, none⟩ = some (.int .i64 (x.2 : Nat)) := by
  have hkl : k < l.length := by
    rcases Nat.lt_or_ge k l.length with h' | h'
    · exact h'
    · rw [List.getElem?_eq_none h'] at hk; cases hk
  rcases h.2 with ⟨-, h0⟩ | ⟨g, cap', cur, hv, hb, h2, h3⟩
  · omega
  · simp only [Value.slice.injEq] at hv
    obtain ⟨rfl, rfl, rfl⟩ := hv
    have := pcs_at hk
    exact ⟨g, rfl, by rw [h.cellAt (k * 2) (by omega)]; exact this.1, by rw [h.cellAt (k * 2 + 1) (by omega)]; exact this.2⟩
theorem wpList_pair {ops : Array Oper} {rest : List Oper} {o : Oper} {a : Act} {W : World} {Q : Exit → Act → World → Prop} (hgd : o.guard = none) (s x : Operand)
    (ho : o.op = .call { callee := .builtin .append, args := #[s, x], argTypes := #[61, 61] }) (base : Nat) (V : Value) (l : List (Nat × Nat)) (p t : Nat)
    (hs : a.eval s = V) (hown : Ps W base V l) (hx : a.eval x = .slice (some ⟨W.heap.size, 0, none⟩) 1 1) (hm : l.length ≤ 100000) (hb : base ≤ W.heap.size)
    (K : ∀ v' w', Ps w' base v' (l ++ [(p, t)]) → (W.alloc (.cells #[.int .i64 (p : Nat), .int .i64 (t : Nat)] 63)).grownBy w' V.ownBlock → wpList Try.prog ops Q rest (a.put o.dst v') w') :
    wpList Try.prog ops Q (o :: rest) a (W.alloc (.cells #[.int .i64 (p : Nat), .int .i64 (t : Nat)] 63)) := by
  obtain ⟨i0, hi, hz0, hz1, hz2⟩ := info_parts Try.infoP
  refine wpList_append_own _ hgd s x 61 ho base 63 i0 (.agg #[.int .i64 0, .int .i64 0]) 2 16 Try.underlying61 hi hz0 hz1 hz2 rfl (by decide) V l.length (pcs l) hs (owns_kp hown (Kp.alloc W _ []) (by simp)) ⟨W.heap.size, 0, none⟩ 1 1 [.int .i64 (p : Nat), .int .i64 (t : Nat)] hx rfl ?_ (by simp; exact ⟨rfl, rfl⟩) (by unfold maxLen; omega) (by omega) (by simp; omega) (fun v' w' h1 h2 _ => K v' w' ?_ h2)
  · intro j u hu
    match j with
    | 0 => simp at hu; subst hu; rw [Addr.add_mid, cell_of_row _ _ _ _ _ _ (heap_alloc_last W _)]; rfl
    | 1 => simp at hu; subst hu; rw [Addr.add_mid, cell_of_row _ _ _ _ _ _ (heap_alloc_last W _)]; rfl
    | j + 2 => simp at hu
  · show w'.ownsRow base 63 2 v' (l ++ [(p, t)]).length (pcs (l ++ [(p, t)]))
    rw [pcs_append, List.length_append]
    exact h1
theorem Ps.grown {W w' : World} {base : Nat} {V : Value} {l : List (Nat × Nat)} {o : Obj} (hN : Ps W base V l) (hG : (W.alloc o).grownBy w' V.ownBlock) {w : World} (hk : Kp w W []) (hb : w.heap.size ≤ base) : Kp w w' [] :=
  (hk.trans (Kp.alloc W o [])).past (Kp.ofGrown (rows := V.ownBlock.toList) hG (by intro g hg; simp [hg])) (by
    intro g hg hl
    simp at hg
    have := (owns_block hN hg).1
    omega)
theorem map_step {l : List Nat} {i x k : Nat} (hx : l[i]? = some x) : (l.take (i + 1)).map (fun t => (k, t)) = (l.take i).map (fun t => (k, t)) ++ [(k, x)] := by
  rw [List.take_add_one, hx, List.map_append]
  rfl

set_option maxRecDepth 100000 in
set_option maxHeartbeats 4000000 in
theorem rall_any (w : World) (qb : Nat) (L : Ls) (h : Rq w qb L) (hl : ∀ p, (L p).length ≤ 1000) (hl2 : (seqs L 31).length ≤ 1000) : Calls Try.prog 26 #[.pointer (some ⟨qb, 0, none⟩)] w fun e w' => (∃ V, e = .returned V ∧ Ps w' w.heap.size V (seqs L 31)) ∧ Kp w w' [] := by
  obtain ⟨F, hF, hN⟩ := h
  have HF := hid hF
  have HN := hid hN
  have hqlt := lt_of_block hF
  clear hF hN
  go_enter Try.func26, Try.ntmps26
  go_wp2
  go_loopw [3, 4] (fun v vp wr => ∃ (k n1 cp1 : Nat) (ao1 : Option Addr) (pre : List (Nat × Nat)), k ≤ 31 ∧ Hid (n1 = pre.length) ∧ v = .slice ao1 n1 cp1 ∧ vp = .int .i64 k ∧ Hid (seqs L 31 = pre ++ seqs L k) ∧ Hid (Ps wr w.heap.size (.slice ao1 n1 cp1) pre) ∧ Hid (Kp w wr [])) (fun _ vp _ => (intOf vp).toNat)
  case atStart => exact ⟨31, 0, 0, none, [], Nat.le_refl _, rfl, rfl, rfl, rfl, Ps.nil _ _, Kp.refl _ _⟩
  case round =>
    obtain ⟨k, n1, cp1, ao1, pre, hk, hn1, rfl, rfl, hQ, hP, hK⟩ := hrel
    by_cases hk1 : 1 ≤ k
    · have hkI : (1 : Int) ≤ (k : Int) := by omega
      have hk32 : k < 32 := by omega
      have hk32' : (k : Int) < 32 := by omega
      have hNk := HN.out k (by omega)
      obtain ⟨ao, cap, hv⟩ := hNk.slice
      have cF := Rq.cell HF.out k (by omega)
      rw [hv] at cF hNk
      have HNk := hid hNk
      have hlk := hl k
      have CK := hid (fun (w1 : World) (hk : Kp w w1 []) => hk.cell cF (by simp))
      clear hNk hv cF
      go_wp2
      go_loopw [3, 5] (fun v vi wr' => ∃ (i n2 cp2 : Nat) (ao2 : Option Addr), i ≤ (L k).length ∧ Hid (n2 = pre.length + i) ∧ v = .slice ao2 n2 cp2 ∧ vi = .int .i64 i ∧ Hid (Ps wr' w.heap.size (.slice ao2 n2 cp2) (pre ++ ((L k).take i).map (fun t => (k, t)))) ∧ Hid (Kp w wr' [])) (fun _ vi _ => (L k).length - (intOf vi).toNat)
      case atStart => exact ⟨0, n1, cp1, ao1, Nat.zero_le _, hid (by have := hn1.out; omega), rfl, rfl, hid (by simpa using hP.out), hK⟩
      case round =>
        obtain ⟨i, n2, cp2, ao2, hi, hn2, rfl, rfl, hP2, hK2⟩ := hrel
        have cF := CK.out _ hK2.out
        by_cases hil : i < (L k).length
        · have hilI : (i : Int) < ((L k).length : Int) := by omega
          have hx : (L k)[i]? = some (L k)[i] := List.getElem?_eq_getElem hil
          obtain ⟨x, hxe⟩ : ∃ x, (L k)[i] = x := ⟨_, rfl⟩
          rw [hxe] at hx
          obtain ⟨g, rfl, -, -, cx⟩ := (HNk.out.keep hK2.out).at hx
          have HM := hid (map_step (k := k) hx)
          obtain ⟨acc, hacc⟩ : ∃ acc, pre ++ ((L k).take i).map (fun t => (k, t)) = acc := ⟨_, rfl⟩
          have HM2 := hid (show pre ++ ((L k).take (i + 1)).map (fun t => (k, t)) = acc ++ [(k, x)] by rw [HM.out, ← List.append_assoc, hacc])
          have hal : acc.length = n2 := by rw [← hacc, hn2.out]; simp; omega
          rw [hacc] at hP2
          have hnb : n2 ≤ 2000 := by
            have h1 := congrArg List.length hQ.out
            have h2 := hn2.out
            simp at h1
            omega
          have hsz : w.heap.size ≤ wr.heap.size := hK2.out.size
          have HAL := hid hal
          clear hx hxe hacc HM hal
          go_wp2_with (refine wpList_pair rfl (.tmp 25) (.tmp 37) rfl w.heap.size (.slice ao2 n2 cp2) acc k x rfl hP2.out rfl (by have := HAL.out; omega) hsz ?_; intro v3 w3 hP3 hG3; obtain ⟨ao3, cp3, hv3⟩ := hP3.slice; rw [List.length_append, List.length_cons, List.length_nil, Nat.zero_add, HAL.out] at hv3; subst hv3; have K3 := hid (Ps.grown hP2.out hG3 hK2.out (Nat.le_refl _)); have P3 := hid hP3; clear hP3 hG3)
          go_roundw
          case rel => exact ⟨i + 1, n2 + 1, cp3, ao3, by omega, hid (by have := hn2.out; omega), rfl, by simp, by rw [HM2.out]; exact P3.out, K3⟩
          case measure => simp [intOf]; omega
        · have hilI : ¬ (i : Int) < ((L k).length : Int) := by omega
          have hP3 := hP2.out
          rw [List.take_of_length_le (by omega)] at hP3
          have P3 := hid hP3
          have HQ2 := hid (show seqs L 31 = (pre ++ (L k).map (fun t => (k, t))) ++ seqs L (k - 1) by rw [hQ.out, seqs_pos L hk1, List.append_assoc])
          clear hP3
          go_wp2
          go_roundw
          case rel => exact ⟨k - 1, n2, cp2, ao2, pre ++ (L k).map (fun t => (k, t)), by omega, hid (by have := hn2.out; simp; omega), rfl, by simp; omega, HQ2, P3, hK2⟩
          case measure => simp [intOf]; omega
    · have hkI : ¬ (1 : Int) ≤ (k : Int) := by omega
      have hk0 : k = 0 := by omega
      have HE := hid (show seqs L 31 = pre by rw [hQ.out, hk0]; simp [seqs])
      go_wp2
      go_ret
      exact ⟨⟨_, rfl, by rw [HE.out]; exact hP.out⟩, hK.out⟩
end Go.Proofs.Ytfhbcigeoagedaa
