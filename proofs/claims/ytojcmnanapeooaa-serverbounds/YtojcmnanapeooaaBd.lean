/- Numbers in a slice beside a server; one tick of ServerBounds. -/
import Derived.Test.YtojcmnanapeooaaKeepsW
namespace Go.Proofs.Ytojcmnanapeooaa
open Go.RowKit Go.Shelf
open Go.Lib hiding intOf

/-- Blocks that hold neither servers nor pieces are kept. -/
structure Kt (w w' : World) : Prop where
  size : w.heap.size ≤ w'.heap.size
  blk : ∀ (k : Nat) (c : Array Value) (t : TypeId), w.heap[k]? = some (Obj.cells c t (0, 0)) → t ≠ 58 → t ≠ 45 → w'.heap[k]? = w.heap[k]?
theorem Kt.of {w w' : World} (h : Kp w w' []) : Kt w w' := ⟨h.size, fun k c t hb _ _ => h.block k (lt_of_block hb) (by simp)⟩
theorem Kt.wt {w w' : World} {sb : Nat} {v : Value} {s s' : Sv} (h : Sr w sb v s) (h1 : Wt w w' sb v s') : Kt w w' :=
  ⟨h1.kp.size, fun k c t hb h58 h45 => h1.kp.block k (lt_of_block hb) fun hm => by
    rcases mem_rws.1 hm with q | q
    · exact block_ne hb h.c h58 q
    · exact h.row.apart hb h45 q⟩
section
variable {w0 w : World} {sb : Nat} {s : Sv}
theorem Kn.start' (h : Kn w0 w sb s) (now : Int) : Calls Try.prog 14 #[.pointer (some ⟨sb, 0, none⟩), .int .i64 now] w fun e w' => e = .returned (.int .i64 (startE s now)) ∧ Kn w0 w' sb (startS s now) ∧ Kt w w' := by
  obtain ⟨v, hv⟩ := h.ex
  exact (start_any w sb v s now hv.1).mono fun e w' ⟨a, b⟩ => ⟨a, h.wt hv b, Kt.wt hv.1 b⟩
theorem Kn.use' (h : Kn w0 w sb s) : Calls Try.prog 15 #[.pointer (some ⟨sb, 0, none⟩)] w fun e w' => e = .returned (.tuple #[.bool (useB s), .int .i64 (useE s)]) ∧ Kn w0 w' sb (useS s) ∧ Kt w w' := by
  obtain ⟨v, hv⟩ := h.ex
  exact (use_any w sb v s hv.1).mono fun e w' ⟨a, b⟩ => ⟨a, h.wt hv b, Kt.wt hv.1 b⟩
theorem Kn.stop' (h : Kn w0 w sb s) (now : Int) : Calls Try.prog 16 #[.pointer (some ⟨sb, 0, none⟩), .int .i64 now] w fun e w' => e = .returned (.int .i64 (stopE s now)) ∧ Kn w0 w' sb (stopS s now) ∧ Kt w w' := by
  obtain ⟨v, hv⟩ := h.ex
  exact (stop_any w sb v s now hv.1).mono fun e w' ⟨a, b⟩ => ⟨a, h.wt hv b, Kt.wt hv.1 b⟩
theorem Kn.due' (h : Kn w0 w sb s) (now : Int) : Calls Try.prog 17 #[.pointer (some ⟨sb, 0, none⟩), .int .i64 now] w fun e w' => e = .returned (.int .i64 (dueN s now)) ∧ Kn w0 w' sb (dueS s now) ∧ Kt w w' := by
  obtain ⟨v, hv⟩ := h.ex
  exact (due_any w sb v s now hv.1).mono fun e w' ⟨a, b⟩ => ⟨a, h.wt hv b, Kt.wt hv.1 b⟩
end
/-- A list of numbers as a slice. -/
def icells (l : List Int) : List Value := l.map fun x => .int .i64 x
def Ns (w : World) (base : Nat) (v : Value) (l : List Int) : Prop := w.ownsRow base 2 1 v l.length (icells l)
theorem Ns.nil (w : World) (base : Nat) : Ns w base (.slice none 0 0) [] := ⟨rfl, .inl ⟨rfl, rfl⟩⟩
theorem Ns.keep {w w' : World} {base : Nat} {v : Value} {l : List Int} (h : Ns w base v l) (hk : Kt w w') : Ns w' base v l := by
  refine ⟨h.1, ?_⟩
  rcases h.2 with ⟨rfl, h0⟩ | ⟨g, cap, cur, rfl, h1, h2, h3⟩
  · exact .inl ⟨rfl, h0⟩
  · exact .inr ⟨g, cap, cur, rfl, h1, (hk.blk g _ _ h2 (by decide) (by decide)).trans h2, h3⟩
theorem Ns.slice {w : World} {base : Nat} {v : Value} {l : List Int} (h : Ns w base v l) : ∃ ao cap, v = .slice ao l.length cap := owns_shape h
theorem Ns.push {w : World} {base : Nat} {v : Value} {l : List Int} {x : Int} (h : w.ownsRow base 2 1 v (l.length + 1) (icells l ++ [.int .i64 x])) : Ns w base v (l ++ [x]) := by
  unfold Ns icells
  simpa [icells] using h
theorem Ns.at {w : World} {base : Nat} {ao : Option Addr} {n cap : Nat} {l : List Int} (h : Ns w base (.slice ao n cap) l) {k : Nat} (hk : k < l.length) : ∃ g, ao = some ⟨g, 0, none⟩ ∧ w.cell? ⟨g, k, none⟩ = some (.int .i64 l[k]!) := by
  rcases h.2 with ⟨hv, h0⟩ | ⟨g, cp, cur, hv, -⟩
  · omega
  · simp only [Value.slice.injEq] at hv
    obtain ⟨rfl, rfl, rfl⟩ := hv
    refine ⟨g, rfl, ?_⟩
    have h1 := World.ownsRow.cellAt h k (by omega)
    rw [h1]
    unfold icells
    rw [List.getElem?_map, List.getElem?_eq_getElem hk, getElem!_pos l k hk]
    rfl
theorem Try.infoI : (Try.prog.info? 2).map (fun i => (i.zero, i.size, i.bytes)) = some (some (.int .i64 0), 1, 8) := by kernel_rfl
theorem wpList_pushI {ops : Array Oper} {rest : List Oper} {o : Oper} {a : Act} {W : World} {Q : Exit → Act → World → Prop} (hgd : o.guard = none) (s x : Operand)
    (ho : o.op = .call { callee := .builtin .append, args := #[s, x], argTypes := #[47, 47] }) (base : Nat) (V : Value) (l : List Int) (h : Int) (g : Nat)
    (hs : a.eval s = V) (hown : Ns W base V l) (hx : a.eval x = .slice (some ⟨g, 0, none⟩) 1 1) (hc : W.cell? ⟨g, 0, none⟩ = some (.int .i64 h)) (hm : l.length ≤ 100000) (hb : base ≤ W.heap.size)
    (K : ∀ v' w', Ns w' base v' (l ++ [h]) → W.grownBy w' V.ownBlock → wpList Try.prog ops Q rest (a.put o.dst v') w') :
    wpList Try.prog ops Q (o :: rest) a W := by
  obtain ⟨i0, hi, hz0, hz1, hz2⟩ := info_parts Try.infoI
  exact wpList_append_own _ hgd s x 47 ho base 2 i0 (.int .i64 0) 1 8 Try.underlying47 hi hz0 hz1 hz2 rfl (by decide) V l.length (icells l) hs hown ⟨g, 0, none⟩ 1 1 [.int .i64 h] hx rfl (by
      intro j u hu
      match j with
      | 0 =>
        simp at hu
        subst hu
        rw [Addr.add_lit]
        exact hc
      | j + 1 => simp at hu) (by simp; rfl) (by unfold maxLen; omega) (by omega) hb (fun v' w' h1 h2 _ => K v' w' (Ns.push h1) h2)
/-- Behind an append to the numbers the server stands as it stood. -/
theorem Kn.grown {w0 w w' : World} {sb : Nat} {s : Sv} (h : Kn w0 w sb s) {base : Nat} {V : Value} {l : List Int} (hN : Ns w base V l) (hb : w0.heap.size ≤ base) (hG : w.grownBy w' V.ownBlock) : Kn w0 w' sb s := by
  obtain ⟨v, a, b⟩ := h.ex
  have kk : Kp w w' V.ownBlock.toList := Kp.ofGrown hG (by intro g hg; simp [hg])
  refine ⟨⟨v, a.keep kk fun k hk hm => ?_, b⟩, h.kp.past kk fun g hg hl => ?_⟩
  · simp at hm
    obtain ⟨-, cur, hc⟩ := owns_block hN hm
    rcases mem_rws.1 hk with q | q
    · exact block_ne a.c hc (by decide) q.symm
    · exact a.row.apart hc (by decide) q
  · simp at hg
    have := (owns_block hN hg).1
    omega
/-- The flags below n as numbers. -/
def fl (u : Nat → Bool) : Nat → List Int
  | 0 => []
  | n + 1 => fl u n ++ [if u n then 1 else 0]
theorem fl_length (u : Nat → Bool) : ∀ n, (fl u n).length = n
  | 0 => rfl
  | n + 1 => by rw [fl, List.length_append, fl_length u n]; rfl
theorem fl_get (u : Nat → Bool) : ∀ n k, k < n → (fl u n)[k]! = if u k then 1 else 0
  | 0, _, h => by omega
  | n + 1, k, h => by
    rw [fl]
    by_cases e : k = n
    · subst e
      rw [List.getElem!_eq_getElem?_getD, List.getElem?_append_right (by rw [fl_length]; exact Nat.le_refl _), fl_length, Nat.sub_self]
      rfl
    · have ih := fl_get u n k (by omega)
      rw [List.getElem!_eq_getElem?_getD, List.getElem?_append_left (by rw [fl_length]; omega), ← List.getElem!_eq_getElem?_getD, ih]
theorem fl_congr {u u' : Nat → Bool} : ∀ {n : Nat}, (∀ k, k < n → u' k = u k) → fl u' n = fl u n
  | 0, _ => rfl
  | n + 1, h => by rw [fl, fl, fl_congr (n := n) (fun k hk => h k (by omega)), h n (by omega)]
def updB (u : Nat → Bool) (n : Nat) (b : Bool) : Nat → Bool := fun k => if k = n then b else u k
def updI (f : Nat → Int) (n : Nat) (x : Int) : Nat → Int := fun k => if k = n then x else f k
theorem updB_at (u : Nat → Bool) (n : Nat) (b : Bool) : updB u n b n = b := by simp [updB]
theorem updB_lt (u : Nat → Bool) (n : Nat) (b : Bool) : ∀ k, k < n → updB u n b k = u k := fun k hk => by
  unfold updB; rw [if_neg (by omega)]
theorem updI_at (f : Nat → Int) (n : Nat) (x : Int) : updI f n x n = x := by simp [updI]
theorem updI_lt (f : Nat → Int) (n : Nat) (x : Int) : ∀ k, k < n → updI f n x k = f k := fun k hk => by
  unfold updI; rw [if_neg (by omega)]
theorem cnt_le (p : Nat → Bool) : ∀ n, cnt p n ≤ n
  | 0 => Nat.le_refl _
  | n + 1 => by have := cnt_le p n; simp only [cnt]; split <;> omega
theorem cnt_up (p : Nat → Bool) : ∀ {m n : Nat}, m ≤ n → cnt p m ≤ cnt p n
  | m, 0, h => by rw [show m = 0 by omega]; exact Nat.le_refl _
  | m, n + 1, h => by
    by_cases e : m = n + 1
    · subst e; exact Nat.le_refl _
    · have := cnt_up p (m := m) (n := n) (by omega)
      simp only [cnt]
      omega
/-- What was used in the last period. -/
theorem window {s : Sv} {i : Nat} {u : Nat → Bool} {σ : Nat → Int} (h : Bi s (i + 1) u σ) {K : Nat} (hK : K ≤ i + 1) (h1 : (i : Int) - s.per + 1 ≤ K) (h2 : K = 0 ∨ (K : Int) - 1 ≤ (i : Int) - s.per) : ((cnt u (i + 1) : Int) - cnt u K) ≤ 2 * s.bud ∧ ((i : Int) < s.per → ((cnt u (i + 1) : Int) - cnt u K) ≤ s.bud) := by
  have hb := bi_bound h ((i : Int) - s.per + 1) (by omega)
  have e1 := cnt_from u K (i + 1) hK
  have e2 : cnt (fun k => decide (K ≤ k) && u k) (i + 1) = cnt (fun k => decide ((i : Int) - s.per + 1 ≤ (k : Int)) && u k) (i + 1) := cnt_congr fun k _ => by
    have : decide (K ≤ k) = decide ((i : Int) - s.per + 1 ≤ (k : Int)) := by
      apply decide_eq_decide.2
      omega
    rw [this]
  rw [e2] at e1
  refine ⟨by have := hb.1; omega, fun q => ?_⟩
  have := hb.2 (by omega)
  omega
/-- All of ServerBounds between two ticks. -/
structure Tb (w wr : World) (sb : Nat) (V : Value) (i : Nat) (b p : Int) (s : Sv) (u : Nat → Bool) (σ : Nat → Int) : Prop where
  kn : Kn w wr sb s
  ns : Ns wr w.heap.size V (fl u i)
  bi : Bi s i u σ
  eb : s.bud = b
  ep : s.per = p
/-- In the midst of tick i. -/
structure Tm (w wr : World) (sb : Nat) (V : Value) (i : Nat) (b p : Int) (s : Sv) (u : Nat → Bool) (σ : Nat → Int) : Prop where
  kn : Kn w wr sb s
  ns : Ns wr w.heap.size V (fl u i)
  bm : Bm s i u σ
  eb : s.bud = b
  ep : s.per = p
theorem start_bp (s : Sv) (now : Int) : (startS s now).bud = s.bud ∧ (startS s now).per = s.per := by
  unfold startS; split <;> exact ⟨rfl, rfl⟩
end Go.Proofs.Ytojcmnanapeooaa
