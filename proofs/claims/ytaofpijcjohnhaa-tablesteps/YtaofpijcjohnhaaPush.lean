/- A handle, a flag are laid behind the others. -/
import Derived.Test.YtaofpijcjohnhaaOwn
namespace Go.Proofs.Ytaofpijcjohnhaa
open Go.RowKit

theorem wpList_push_i {ops : Array Oper} {rest : List Oper} {o : Oper} {a : Act} {W : World} {Q : Exit → Act → World → Prop} (hgd : o.guard = none) (s x : Operand)
    (ho : o.op = .call { callee := .builtin .append, args := #[s, x], argTypes := #[31, 31] }) (base : Nat) (V : Value) (m : Nat) (xs : List Value) (h : Int)
    (hs : a.eval s = V) (hown : W.ownsRow base 2 1 V m xs) (hx : a.eval x = .slice (some ⟨W.heap.size, 0, none⟩) 1 1) (hm : m ≤ 100000) (hb : base ≤ W.heap.size)
    (K : ∀ v' w', w'.ownsRow base 2 1 v' (m + 1) (xs ++ [.int .i64 h]) → (W.alloc (.cells #[.int .i64 h] 2)).grownBy w' V.ownBlock → wpList Try.prog ops Q rest (a.put o.dst v') w') :
    wpList Try.prog ops Q (o :: rest) a (W.alloc (.cells #[.int .i64 h] 2)) := by
  obtain ⟨i0, hi, hz0, hz1, hz2⟩ := info_parts Try.infoI
  refine wpList_append_own _ hgd s x 31 ho base 2 i0 (.int .i64 0) 1 8 Try.underlying31 hi hz0 hz1 hz2 rfl (by decide) V m xs hs (owns_kp hown (Kp.alloc W _ []) (by simp)) ⟨W.heap.size, 0, none⟩ 1 1 [.int .i64 h] hx rfl ?_ (by simp; rfl) (by unfold maxLen; omega) (by omega) (by simp; omega) (fun v' w' h1 h2 _ => K v' w' h1 h2)
  intro j u hu
  match j with
  | 0 =>
    simp at hu
    subst hu
    rw [Addr.add_mid, cell_of_row _ _ _ _ _ _ (heap_alloc_last W _)]
    rfl
  | j + 1 => simp at hu
theorem wpList_push_b {ops : Array Oper} {rest : List Oper} {o : Oper} {a : Act} {W : World} {Q : Exit → Act → World → Prop} (hgd : o.guard = none) (s x : Operand)
    (ho : o.op = .call { callee := .builtin .append, args := #[s, x], argTypes := #[44, 44] }) (base : Nat) (V : Value) (m : Nat) (xs : List Value) (h : Bool)
    (hs : a.eval s = V) (hown : W.ownsRow base 4 1 V m xs) (hx : a.eval x = .slice (some ⟨W.heap.size, 0, none⟩) 1 1) (hm : m ≤ 100000) (hb : base ≤ W.heap.size)
    (K : ∀ v' w', w'.ownsRow base 4 1 v' (m + 1) (xs ++ [.bool h]) → (W.alloc (.cells #[.bool h] 4)).grownBy w' V.ownBlock → wpList Try.prog ops Q rest (a.put o.dst v') w') :
    wpList Try.prog ops Q (o :: rest) a (W.alloc (.cells #[.bool h] 4)) := by
  obtain ⟨i0, hi, hz0, hz1, hz2⟩ := info_parts Try.infoB
  refine wpList_append_own _ hgd s x 44 ho base 4 i0 (.bool false) 1 1 Try.underlying44 hi hz0 hz1 hz2 rfl (by decide) V m xs hs (owns_kp hown (Kp.alloc W _ []) (by simp)) ⟨W.heap.size, 0, none⟩ 1 1 [.bool h] hx rfl ?_ (by simp; rfl) (by unfold maxLen; omega) (by omega) (by simp; omega) (fun v' w' h1 h2 _ => K v' w' h1 h2)
  intro j u hu
  match j with
  | 0 =>
    simp at hu
    subst hu
    rw [Addr.add_mid, cell_of_row _ _ _ _ _ _ (heap_alloc_last W _)]
    rfl
  | j + 1 => simp at hu

theorem Lv.mono {w wr : World} {tb n : Nat} {s s' : Int} {T : Pl} {G : List Int} {B : List Bool} {ag ab : Option Addr} {cg cb m : Nat} (h : Lv w wr tb n s T G B ag ab cg cb m) (hs : s ≤ s') : Lv w wr tb n s' T G B ag ab cg cb m :=
  ⟨h.tt, h.inv.mono hs, h.len, h.og, h.ob, h.nb, h.kp⟩
theorem owns_apart {w w' : World} {base e s : Nat} {v : Value} {m : Nat} {xs : List Value} {row : Option Nat} {t : Nat} (h : w.ownsRow base e s v m xs) (hg : w.grownBy w' row) (hr : ∀ g, row = some g → ∃ c, w.heap[g]? = some (.cells c t (0, 0))) (he : t ≠ e) : w'.ownsRow base e s v m xs := by
  cases hrow : row with
  | none => subst hrow; exact owns_kp (rows := []) h (Kp.ofGrown hg (by simp)) (by simp)
  | some r =>
    subst hrow
    refine owns_kp (rows := [r]) h (Kp.ofGrown hg (by simp)) fun g hb => ?_
    obtain ⟨-, cur, hc⟩ := owns_block h hb
    obtain ⟨c, hc'⟩ := hr r rfl
    have := block_ne hc' hc he
    simp; exact fun e => this e.symm
theorem owns_tb {w w' : World} {base e s tb : Nat} {n : Int} {T : Pl} {v : Value} {m : Nat} {xs : List Value} (h : w.ownsRow base e s v m xs) (ht : Tt w tb n T) (he : 55 ≠ e) (hk : Kp w w' [tb]) : w'.ownsRow base e s v m xs :=
  owns_kp h hk fun g hg => by
    obtain ⟨-, cur, hc⟩ := owns_block h hg
    have := block_ne ht hc he
    simp; exact fun e => this e.symm
theorem tt_apart {w w' : World} {tb : Nat} {n : Int} {T : Pl} {row : Option Nat} {t : Nat} (h : Tt w tb n T) (hg : w.grownBy w' row) (hr : ∀ g, row = some g → ∃ c, w.heap[g]? = some (.cells c t (0, 0))) (he : t ≠ 55) : Tt w' tb n T := by
  refine (hg.block tb h.lt fun e => ?_).trans h
  obtain ⟨c, hc⟩ := hr tb e.symm
  exact block_ne hc h he rfl

/-- A place has been taken; its handle is not laid down yet. -/
structure Lv2 (w wr : World) (tb n : Nat) (s : Int) (T : Pl) (k : Nat) (G : List Int) (B : List Bool) (ag ab : Option Addr) (cg cb m : Nat) : Prop where
  tt : Tt wr tb n (upd T k (true, (T k).2 + 1))
  inv : Inv n s T G B
  len : G.length = m
  og : wr.ownsRow w.heap.size 2 1 (.slice ag m cg) m (gi G)
  ob : wr.ownsRow w.heap.size 4 1 (.slice ab m cb) m (gb B)
  nb : w.heap.size ≤ tb
  kp : Kp w wr []
section
variable {w W W1 W2 : World} {tb n : Nat} {s : Int} {T : Pl} {k : Nat} {G : List Int} {B : List Bool} {ag ab : Option Addr} {cg cb m : Nat} {h : Int} {v1 v2 : Value}
theorem Lv2.row (h2 : Lv2 w W tb n s T k G B ag ab cg cb m) (o : Obj) : ∀ g, (Value.slice ag m cg).ownBlock = some g → ∃ c, (W.alloc o).heap[g]? = some (.cells c 2 (0, 0)) := fun g hg => by
  obtain ⟨-, c, hc⟩ := owns_block h2.og hg
  exact ⟨c, (Below.heap_alloc _ _ _ (lt_of_block hc)).trans hc⟩
/-- .. the flags, behind the first one. -/
theorem Lv2.ob1 (h2 : Lv2 w W tb n s T k G B ag ab cg cb m) (hg : (W.alloc (.cells #[.int .i64 h] 2)).grownBy W1 (Value.slice ag m cg).ownBlock) : W1.ownsRow w.heap.size 4 1 (.slice ab m cb) m (gb B) :=
  owns_apart (owns_kp h2.ob (Kp.alloc W _ []) (by simp)) hg (h2.row _) (by decide)
theorem Lv2.push (h2 : Lv2 w W tb n s T k G B ag ab cg cb m) (hn : n ≤ 16) (hk : k < n) (hf : (T k).1 = false) (hh : (k : Int) + 16 * ((T k).2 + 1) = h)
    (o1 : W1.ownsRow w.heap.size 2 1 v1 (m + 1) (gi G ++ [.int .i64 h])) (g1 : (W.alloc (.cells #[.int .i64 h] 2)).grownBy W1 (Value.slice ag m cg).ownBlock)
    (o2 : W2.ownsRow w.heap.size 4 1 v2 (m + 1) (gb B ++ [.bool false])) (g2 : (W1.alloc (.cells #[.bool false] 4)).grownBy W2 (Value.slice ab m cb).ownBlock) :
    ∃ ag' cg' ab' cb', v1 = .slice ag' (m + 1) cg' ∧ v2 = .slice ab' (m + 1) cb' ∧ ∃ T G B, Lv w W2 tb n (s + 1) T G B ag' ab' cg' cb' (m + 1) := by
  obtain ⟨ag', cg', rfl⟩ := owns_shape o1
  obtain ⟨ab', cb', rfl⟩ := owns_shape o2
  have ob1 := h2.ob1 g1
  have r2 : ∀ g, (Value.slice ab m cb).ownBlock = some g → ∃ c, (W1.alloc (.cells #[.bool false] 4)).heap[g]? = some (.cells c 4 (0, 0)) := fun g hg => by
    obtain ⟨-, c, hc⟩ := owns_block ob1 hg
    exact ⟨c, (Below.heap_alloc _ _ _ (lt_of_block hc)).trans hc⟩
  refine ⟨ag', cg', ab', cb', rfl, rfl, upd T k (true, (T k).2 + 1), G ++ [h], B ++ [false], ?_, ?_, ?_, ?_, ?_, h2.nb, ?_⟩
  · exact tt_apart ((tt_apart (h2.tt.keep (Kp.alloc W _ []) (by simp)) g1 (h2.row _) (by decide)).keep (Kp.alloc W1 _ []) (by simp)) g2 r2 (by decide)
  · rw [← hh]; exact h2.inv.add hn hk hf
  · simp [h2.len]
  · have := owns_apart (owns_kp o1 (Kp.alloc W1 (.cells #[.bool false] 4) []) (by simp)) g2 r2 (by decide)
    simpa [gi] using this
  · simpa [gb] using o2
  · have k1 : Kp w W1 [] := (h2.kp.trans (Kp.alloc W _ [])).past (Kp.ofGrown (rows := (Value.slice ag m cg).ownBlock.toList) g1 (by intro g hg; simp [hg])) (by
      intro g hg hl
      simp at hg
      have := (owns_block h2.og hg).1
      omega)
    exact (k1.trans (Kp.alloc W1 _ [])).past (Kp.ofGrown (rows := (Value.slice ab m cb).ownBlock.toList) g2 (by intro g hg; simp [hg])) (by
      intro g hg hl
      simp at hg
      have := (owns_block h2.ob hg).1
      omega)
end
/-- The k-th handle was dropped; its flag is not set yet. -/
structure Lv3 (w wr : World) (tb n : Nat) (s : Int) (T : Pl) (k : Nat) (G : List Int) (B : List Bool) (ag ab : Option Addr) (cg cb m : Nat) : Prop where
  tt : Tt wr tb n T
  inv : Inv n s T G (B.set k true)
  len : G.length = m
  og : wr.ownsRow w.heap.size 2 1 (.slice ag m cg) m (gi G)
  ob : wr.ownsRow w.heap.size 4 1 (.slice ab m cb) m (gb B)
  nb : w.heap.size ≤ tb
  kp : Kp w wr []
section
variable {w wr : World} {tb n : Nat} {s : Int} {T : Pl} {k : Nat} {G : List Int} {B : List Bool} {ag ab : Option Addr} {cg cb m : Nat} {x : Int} {gone : Bool}
theorem Lv.dropAt (h : Lv w wr tb n s T G B ag ab cg cb m) (hs : s ≤ 1000000) (h1 : 1 ≤ n) (h2 : n ≤ 16) (hk : k < m) (hx : G.getD k 0 = x) (hg : B.getD k false = gone) :
    Calls Try.prog 18 #[.pointer (some ⟨tb, 0, none⟩), .int .i64 x] wr fun e w' => (∃ r : Int, e = .returned (.int .i64 r) ∧ (r == 0) = !gone) ∧ (∃ T', Lv3 w w' tb n s T' k G B ag ab cg cb m) ∧ Kp wr w' [tb] := by
  have hkl : k < G.length := by rw [h.len]; exact hk
  obtain ⟨l1, l2⟩ := h.inv.look h2 k hkl
  rw [hx, hg] at l1 l2
  cases gone with
  | true =>
    refine (drop_no wr tb n T x h.tt (h.inv.gd' hs) h1 h2 (by simpa using l1)).mono ?_
    rintro e w' ⟨rfl, hK⟩
    have h' := h.keep hK
    exact ⟨⟨6, rfl, rfl⟩, ⟨T, h'.tt, by rw [set_gone hg]; exact h'.inv, h'.len, h'.og, h'.ob, h'.nb, h'.kp⟩, hK.nil⟩
  | false =>
    obtain ⟨p, hp, hv, -, -⟩ := l2 rfl
    refine (drop_ok wr tb n p T x h.tt (h.inv.gd' hs) h1 h2 (by simpa using l1) hv hp).mono ?_
    rintro e w' ⟨rfl, t', hK⟩
    have hi := (h.inv.drop h2 hkl hg (by rw [hx]; exact hv)).2
    exact ⟨⟨0, rfl, rfl⟩, ⟨_, t', hi, h.len, owns_tb h.og h.tt (by decide) hK, owns_tb h.ob h.tt (by decide) hK, h.nb, h.kp.past hK (by intro k hk' hl; have := h.nb; simp at hk'; omega)⟩, hK⟩
/-- The flag is set. -/
theorem Lv3.mark {gB : Nat} (h : Lv3 w wr tb n s T k G B ag (some ⟨gB, 0, none⟩) cg cb m) : Lv w (wr.setCell ⟨gB, k, none⟩ (.bool true)) tb n s T G (B.set k true) ag (some ⟨gB, 0, none⟩) cg cb m := by
  obtain ⟨hb, cur, hc⟩ := owns_block h.ob (g := gB) rfl
  have ne1 : tb ≠ gB := block_ne h.tt hc (by decide)
  have hk := Kp.setCell wr ⟨gB, k, none⟩ (.bool true)
  refine ⟨h.tt.keep hk (by simpa using ne1), h.inv, h.len, owns_kp h.og hk ?_, own_set h.ob, h.nb, h.kp.past hk (by intro j hj hl; simp at hj; omega)⟩
  intro g hg
  obtain ⟨-, cur', hc'⟩ := owns_block h.og hg
  have := block_ne hc' hc (by decide)
  simpa using this
end
end Go.Proofs.Ytaofpijcjohnhaa
