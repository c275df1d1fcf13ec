/- Both heaps in memory, and the pair that holds them. -/
import Derived.Test.YtgefmnnkpffpcaaGreatDoorScheckJ
namespace Go.Proofs.YtgefmnnkpffpcaaGreatDoor
open Go.RowKit Go.Maps

/-- The pair, the reference and the offsets that were answered. -/
structure Bh (w0 w : World) (qb hb xb eb n : Nat) (L : List Bl) (F : Nat → List Int) (V : Value) (G : Nat → Value) (f : Nat → Nat) (lv : Value) (ls : List Int) : Prop where
  pr : w.heap[qb]? = some (.cells #[.pointer (some ⟨hb, 0, none⟩), .pointer (some ⟨xb, 0, none⟩), lv] 31 (0, 0))
  is : Is w w0.heap.size lv ls
  rh : Rh w xb V G (mslice eb n) L F
  mb : Mb w eb n f
  lo : w0.heap.size ≤ qb ∧ w0.heap.size ≤ xb ∧ w0.heap.size ≤ eb ∧ ∀ g, V.ownBlock = some g → w0.heap.size ≤ g
  lf : ∀ g, lv.ownBlock = some g → ∀ c, c < 32 → (G c).ownBlock ≠ some g
  bd : ∀ x ∈ ls, 0 ≤ x ∧ x ≤ 65536
  kp : Kp w0 w []
  z0 : 0 < w0.heap.size
section
variable {w0 w w' : World} {qb hb rb mb pb xb eb n : Nat} {g : Mem} {c : Int} {P : Pcs} {L L' : List Bl} {F F' : Nat → List Int} {V : Value} {G : Nat → Value} {f f' : Nat → Nat} {lv : Value} {ls : List Int}
theorem Hp.off4 (h : Hp w hb rb mb pb n g c P) {b t : Nat} {cur : Array Value} (hc : w.heap[b]? = some (.cells cur t (0, 0))) (h1 : t ≠ 67) (h2 : t ≠ 85) (h3 : t ≠ 5 ∨ b ≠ mb) : b ≠ hb ∧ b ≠ rb ∧ b ≠ mb ∧ b ≠ pb := by
  have hh := h.hh
  obtain ⟨f, ⟨cap, cur', hr, hm, -⟩, -⟩ := h.aw
  obtain ⟨es, clock, hp, -⟩ := h.mp
  refine ⟨block_ne hc hh h1, block_ne hc hr h2, ?_, ?_⟩
  · rcases h3 with q | q
    · exact block_ne hc hm q
    · exact q
  · rintro rfl
    rw [hc] at hp
    cases hp
theorem Bh.same (B : Bh w0 w qb hb xb eb n L F V G f lv ls) (hk : Kp w w' []) : Bh w0 w' qb hb xb eb n L F V G f lv ls :=
  ⟨(hk.block qb (lt_of_block B.pr) (by simp)).trans B.pr, B.is.keep hk, B.rh.same hk, B.mb.keep hk (by simp), B.lo, B.lf, B.bd, B.kp.trans hk, B.z0⟩
theorem Bh.c0 (B : Bh w0 w qb hb xb eb n L F V G f lv ls) : w.cell? ⟨qb, 0, none⟩ = some (.pointer (some ⟨hb, 0, none⟩)) := (cell_tri B.pr).1
theorem Bh.c1 (B : Bh w0 w qb hb xb eb n L F V G f lv ls) : w.cell? ⟨qb, 1, none⟩ = some (.pointer (some ⟨xb, 0, none⟩)) := (cell_tri B.pr).2.1
theorem Bh.c2 (B : Bh w0 w qb hb xb eb n L F V G f lv ls) : w.cell? ⟨qb, 2, none⟩ = some lv := (cell_tri B.pr).2.2
theorem Bh.free (B : Bh w0 w qb hb xb eb n L F V G f lv ls) (i : Nat) : w.frozen? ⟨qb, i, none⟩ = false := by simp [World.frozen?, B.pr]
/-- The program's heap goes on. -/
theorem Bh.prog (B : Bh w0 w qb hb xb eb n L F V G f lv ls) (hH : Hp w hb rb mb pb n g c P) (hne : mb ≠ eb) (hlo : w0.heap.size ≤ rb ∧ w0.heap.size ≤ mb ∧ w0.heap.size ≤ pb) (hk : Kp w w' [rb, mb, pb]) : Bh w0 w' qb hb xb eb n L F V G f lv ls := by
  obtain ⟨ecur, he, -, -⟩ := B.mb.blk
  have off : ∀ b cur t, w.heap[b]? = some (.cells cur t (0, 0)) → t ≠ 67 → t ≠ 85 → (t ≠ 5 ∨ b ≠ mb) → b ∉ [rb, mb, pb] := fun b cur t hc h1 h2 h3 => by
    have := hH.off4 hc h1 h2 h3
    simp
    exact ⟨this.2.1, this.2.2.1, this.2.2.2⟩
  have oq := off qb _ _ B.pr (by decide) (by decide) (.inl (by decide))
  have ox := off xb _ _ B.rh.blk (by decide) (by decide) (.inl (by decide))
  have oe := off eb _ _ he (by decide) (by decide) (.inr (fun e => hne e.symm))
  refine ⟨(hk.block qb (lt_of_block B.pr) oq).trans B.pr, B.is.kp hk (fun g hg => ?_), B.rh.keep hk ox (fun g hg => ?_) (fun c g hc hg => ?_), B.mb.keep hk oe, B.lo, B.lf, B.bd, B.kp.past hk ?_, B.z0⟩
  · obtain ⟨-, cur, hc⟩ := owns_block B.is hg
    exact off g _ _ hc (by decide) (by decide) (.inl (by decide))
  · obtain ⟨-, cur, hc⟩ := owns_block B.rh.row hg
    exact off g _ _ hc (by decide) (by decide) (.inl (by decide))
  · obtain ⟨-, cur, hcc⟩ := owns_block (B.rh.lst c hc) hg
    exact off g _ _ hcc (by decide) (by decide) (.inl (by decide))
  · intro k hm hl
    simp at hm
    omega
/-- The reference goes on. -/
theorem Bh.ref (B : Bh w0 w qb hb xb eb n L F V G f lv ls) (hR : Rm w w' xb eb n V G L' F' f') : ∃ V' G', Bh w0 w' qb hb xb eb n L' F' V' G' f' lv ls := by
  obtain ⟨V', G', a, m, k, q⟩ := hR
  obtain ⟨ecur, he, -, -⟩ := B.mb.blk
  have off : ∀ b cur t, w.heap[b]? = some (.cells cur t (0, 0)) → t ≠ 42 → t ≠ 5 → t ≠ 44 → b ∉ xb :: eb :: V.ownBlock.toList := fun b cur t hc h1 h2 h3 => by
    simp only [List.mem_cons, Option.mem_toList, not_or]
    refine ⟨block_ne hc B.rh.blk h1, block_ne hc he h2, fun e => ?_⟩
    obtain ⟨-, cur', hc'⟩ := owns_block B.rh.row e
    exact block_ne hc hc' h3 rfl
  refine ⟨V', G', (k.block qb (lt_of_block B.pr) (off _ _ _ B.pr (by decide) (by decide) (by decide))).trans B.pr, B.is.kp k (fun g hg => ?_), a, m, ⟨B.lo.1, B.lo.2.1, B.lo.2.2.1, fun g hg => ?_⟩, fun g hg c hc e => ?_, B.bd, B.kp.past k ?_, B.z0⟩
  · obtain ⟨-, cur, hc⟩ := owns_block B.is hg
    exact off g _ _ hc (by decide) (by decide) (by decide)
  · rcases q.1 g hg with e | e
    · exact B.lo.2.2.2 g e
    · exact Nat.le_trans B.kp.size e
  · rcases q.2 c g hc e with e | e
    · exact B.lf g hg c hc e
    · obtain ⟨-, cur, hcc⟩ := owns_block B.is hg
      have := lt_of_block hcc
      omega
  · intro x hm hl
    simp only [List.mem_cons, Option.mem_toList] at hm
    rcases hm with e | e | e
    · have := B.lo; omega
    · have := B.lo; omega
    · have := B.lo.2.2.2 x e; omega
theorem Hp.over (hH : Hp w hb rb mb pb n g c P) (B : Bh w0 w qb hb xb eb n L F V G f lv ls) (hne : mb ≠ eb) (hk : Kp w w' (xb :: eb :: V.ownBlock.toList)) : Hp w' hb rb mb pb n g c P := by
  obtain ⟨ecur, he, -, -⟩ := B.mb.blk
  have h1 := hH.off4 B.rh.blk (by decide) (by decide) (.inl (by decide))
  have h2 := hH.off4 he (by decide) (by decide) (.inr (fun e => hne e.symm))
  have h3 : ∀ g, V.ownBlock = some g → g ≠ hb ∧ g ≠ rb ∧ g ≠ mb ∧ g ≠ pb := fun g hg => by
    obtain ⟨-, cur, hc⟩ := owns_block B.rh.row hg
    exact hH.off4 hc (by decide) (by decide) (.inl (by decide))
  have lo := B.lo
  have z0 := B.z0
  refine hH.keep hk ?_ ?_ ?_ ?_ ?_
  all_goals (
    simp only [List.mem_cons, Option.mem_toList, not_or]
    refine ⟨by omega, by omega, fun e => ?_⟩
    have := h3 _ e
    have := lo.2.2.2 _ e
    omega)
end
/-- Both heaps between steps. -/
structure Bo (w0 w : World) (qb hb rb mb pb xb eb n : Nat) (g : Mem) (c : Int) (L : List Bl) (F : Nat → List Int) (V : Value) (G : Nat → Value) (f : Nat → Nat) (lv : Value) (ls : List Int) (X : Nat → Prop) : Prop where
  bh : Bh w0 w qb hb xb eb n L F V G f lv ls
  hp : Hp w hb rb mb pb n g c (piecesOf L)
  hs : Hs n g L F
  ag : Ag f g (piecesOf L) X
  ne : mb ≠ eb
  lo : w0.heap.size ≤ hb ∧ w0.heap.size ≤ rb ∧ w0.heap.size ≤ mb ∧ w0.heap.size ≤ pb
  n8 : 128 ≤ n
section
variable {w0 w w1 w2 : World} {qb hb rb mb pb xb eb n : Nat} {g g' : Mem} {c k : Int} {L L' : List Bl} {F F' : Nat → List Int} {V : Value} {G : Nat → Value} {f f' : Nat → Nat} {lv : Value} {ls : List Int} {X X' : Nat → Prop} {P' : Pcs}
theorem Bo.same (B : Bo w0 w qb hb rb mb pb xb eb n g c L F V G f lv ls X) (hk : Kp w w1 []) : Bo w0 w1 qb hb rb mb pb xb eb n g c L F V G f lv ls X :=
  ⟨B.bh.same hk, B.hp.same hk, B.hs, B.ag, B.ne, B.lo, B.n8⟩
theorem Bo.half (B : Bo w0 w qb hb rb mb pb xb eb n g c L F V G f lv ls X) (h1 : Went w w1 hb rb mb pb n g' P' c k [rb, mb, pb]) : Bh w0 w1 qb hb xb eb n L F V G f lv ls := by
  obtain ⟨c', -, -, -, hk⟩ := h1
  exact B.bh.prog B.hp B.ne B.lo.2 hk
theorem Bo.both (B : Bo w0 w qb hb rb mb pb xb eb n g c L F V G f lv ls X) (h1 : Went w w1 hb rb mb pb n g' (piecesOf L') c k [rb, mb, pb]) (h2 : Rm w1 w2 xb eb n V G L' F' f') (hs : Hs n g' L' F') (ag : Ag f' g' (piecesOf L') X') :
    ∃ c' V' G', c ≤ c' ∧ c' ≤ c + k ∧ Bo w0 w2 qb hb rb mb pb xb eb n g' c' L' F' V' G' f' lv ls X' := by
  have bh := B.half h1
  obtain ⟨c', l1, l2, hH, hk⟩ := h1
  obtain ⟨V', G', b2⟩ := bh.ref h2
  obtain ⟨-, -, -, -, k2, -⟩ := h2
  exact ⟨c', V', G', l1, l2, b2, hH.over bh B.ne k2, hs, ag, B.ne, B.lo, B.n8⟩
theorem Went.past {rows : List Nat} (h : Went w w1 hb rb mb pb n g P' c k rows) (hk : Kp w1 w2 []) : Went w w2 hb rb mb pb n g P' c k rows := by
  obtain ⟨c', l1, l2, hH, h4⟩ := h
  exact ⟨c', l1, l2, hH.same hk, h4.trans (hk.mono (by simp))⟩
/-- The program's heap alone went on, its words the same. -/
theorem Bo.looked (B : Bo w0 w qb hb rb mb pb xb eb n g c L F V G f lv ls X) {rows : List Nat} (h1 : Went w w1 hb rb mb pb n g (piecesOf L) c k rows) (hr : ∀ x ∈ rows, x ∈ [rb, mb, pb]) : ∃ c', c ≤ c' ∧ c' ≤ c + k ∧ Bo w0 w1 qb hb rb mb pb xb eb n g c' L F V G f lv ls X := by
  have h2 := h1.more hr (Int.le_refl k)
  have bh := B.half h2
  obtain ⟨c', l1, l2, hH, -⟩ := h2
  exact ⟨c', l1, l2, bh, hH, B.hs, B.ag, B.ne, B.lo, B.n8⟩
end
end Go.Proofs.YtgefmnnkpffpcaaGreatDoor

/- Both heaps: an offset is laid behind the others; words are set and read on both sides. -/
namespace Go.Proofs.YtgefmnnkpffpcaaGreatDoor
open Go.RowKit Go.Maps

theorem gi_len (l : List Int) : (gi l).length = l.length * 1 := by simp [gi]
theorem Is.cells {w : World} {base : Nat} {ad : Addr} {m cap : Nat} {l : List Int} (h : Is w base (.slice (some ad) m cap) l) : ∀ (j : Nat) (u : Value), (gi l)[j]? = some u → w.cell? (ad.add j) = some u := by
  intro j u hu
  cases hx : l[j]? with
  | none => simp [gi, hx] at hu
  | some x =>
    simp [gi, hx] at hu
    subst hu
    obtain ⟨g, e, -, -, hc⟩ := h.at hx
    cases e
    rw [Addr.add_lit, Nat.zero_add]
    exact hc
/-- append: the row stays where it was, or lies in new memory. -/
theorem push_where {w : World} (ty : TypeId) (base : Nat) (V : Value) (l : List Int) (hV : Is w base V l) (ad : Addr) (m : List Int) (cap : Nat) (hX : ∀ (j : Nat) (u : Value), (gi m)[j]? = some u → w.cell? (ad.add j) = some u) (hm0 : m ≠ []) (hl : l.length ≤ 1000000) (hm : m.length ≤ 1000000) (hb : base ≤ w.heap.size) :
    ∃ v' w', (Builtin.append_ #[29, 29] ty #[V, .slice (some ad) m.length cap]).run Tryz.prog w = .ok v' w' ∧ Is w' base v' (l ++ m) ∧ w.grownBy w' V.ownBlock ∧ (v'.ownBlock = V.ownBlock ∨ v'.ownBlock = some w.heap.size) := by
  obtain ⟨i0, hi, hz0, hz1, hz2⟩ := info_parts Tryz.infoI
  obtain ⟨v', w', hr, h2, h3, -⟩ := run_append_own (P := Tryz.prog) w base 29 ty 3 i0 (.int .i64 0) 1 8 Tryz.underlying29 hi hz0 hz1 hz2 rfl (by decide) V l.length (gi l) hV ad m.length cap (gi m) (gi_len m) hX (gi_one m) (by unfold maxLen; omega) (by omega) hb
  refine ⟨v', w', hr, by unfold Is; rw [List.length_append, show gi (l ++ m) = gi l ++ gi m by simp [gi]]; exact h2, h3, ?_⟩
  have hmp : 0 < m.length := List.length_pos_iff.2 hm0
  have hlen : (gi m).length = m.length * i0.size := by rw [hz1]; exact gi_len m
  rcases hV.2 with ⟨rfl, h0⟩ | ⟨g, cp, cur, rfl, hbg, hg, hnc, hcm, hcs, htake⟩
  · have hr2 := run_append_nil (P := Tryz.prog) w 29 ty 3 i0 (.int .i64 0) Tryz.underlying29 hi hz0 ad m.length cap (gi m) hlen hX hmp (by omega) (by rw [hz2]; omega)
    have e := hr.symm.trans hr2
    injection e with e1 _
    rw [e1]
    exact .inr rfl
  · by_cases hroom : l.length + m.length ≤ cp
    · have hr2 := run_append_room (P := Tryz.prog) w 29 ty 3 i0 Tryz.underlying29 hi g l.length cp cur hg ad m.length cap (gi m) hlen hX (gi_one m) hroom (by rw [hz1, hcs, gi_len]; omega)
      have e := hr.symm.trans hr2
      injection e with e1 _
      rw [e1]
      exact .inl rfl
    · have hr2 := run_append_grow (P := Tryz.prog) w 29 ty 3 i0 (.int .i64 0) Tryz.underlying29 hi hz0 ⟨g, 0, none⟩ l.length cp (gi l) (by rw [hz1]; exact gi_len l) hV.cells ad m.length cap (gi m) hlen hX (by omega) (by omega) (by rw [hz2]; exact growslice_fits (by omega) (by omega))
      have e := hr.symm.trans hr2
      injection e with e1 _
      rw [e1]
      exact .inr rfl
theorem wpList_pushW {ops : Array Oper} {rest : List Oper} {o : Oper} {a : Act} {W : World} {Q : Exit → Act → World → Prop} (hgd : o.guard = none) (s x : Operand)
    (ho : o.op = .call { callee := .builtin .append, args := #[s, x], argTypes := #[29, 29] }) (base : Nat) (V : Value) (l : List Int) (h : Int)
    (hs : a.eval s = V) (hown : Is W base V l) (hx : a.eval x = .slice (some ⟨W.heap.size, 0, none⟩) 1 1) (hm : l.length ≤ 100000) (hb : base ≤ W.heap.size)
    (K : ∀ v' w', Is w' base v' (l ++ [h]) → (W.alloc (.cells #[.int .i64 h] 3)).grownBy w' V.ownBlock → (v'.ownBlock = V.ownBlock ∨ v'.ownBlock = some (W.alloc (.cells #[.int .i64 h] 3)).heap.size) → wpList Tryz.prog ops Q rest (a.put o.dst v') w') :
    wpList Tryz.prog ops Q (o :: rest) a (W.alloc (.cells #[.int .i64 h] 3)) := by
  refine wpList_plain hgd fun _ hK => ?_
  obtain ⟨v', w', hr, h2, h3, h4⟩ := push_where (w := W.alloc (.cells #[.int .i64 h] 3)) o.type base V l (owns_kp hown (Kp.alloc W _ []) (by simp)) ⟨W.heap.size, 0, none⟩ [h] 1 (by simpa [gi] using one_cell) (by simp) (by omega) (by simp) (by have := (Kp.alloc W (.cells #[.int .i64 h] 3) []).size; omega)
  have hr' : (Builtin.append_ #[29, 29] o.type #[V, .slice (some ⟨W.heap.size, 0, none⟩) 1 1]).run Tryz.prog (W.alloc (.cells #[.int .i64 h] 3)) = .ok v' w' := hr
  unfold Oper.wp execOp
  simp only [ho, resolve, invoke, builtin, Sem.run_bind, Sem.run_pure, Result.andThen_ok, List.map_toArray, List.map_cons, List.map_nil, hs, hx, hr']
  exact hK _ _ (K v' w' h2 h3 h4)
/-- Steps in memory stay. -/
def Sty (w w' : World) : Prop := ∀ (b : Nat) (cur : Array Value), w.heap[b]? = some (.cells cur 35 (0, 0)) → w'.heap[b]? = some (.cells cur 35 (0, 0))
theorem Sty.refl (w : World) : Sty w w := fun _ _ h => h
theorem Sty.trans {w w1 w2 : World} (h : Sty w w1) (h' : Sty w1 w2) : Sty w w2 := fun b cur q => h' b cur (h b cur q)
theorem Sty.nil {w w' : World} (hk : Kp w w' []) : Sty w w' := fun b _ q => (hk.block b (lt_of_block q) (by simp)).trans q
theorem Hp.sty {w w' : World} {hb rb mb pb n : Nat} {g : Mem} {c : Int} {P : Pcs} (h : Hp w hb rb mb pb n g c P) (hk : Kp w w' [rb, mb, pb]) : Sty w w' := fun b cur q => by
  have := h.off4 q (by decide) (by decide) (.inl (by decide))
  exact (hk.block b (lt_of_block q) (by simp; exact ⟨this.2.1, this.2.2.1, this.2.2.2⟩)).trans q
theorem Bh.sty {w0 w w' : World} {qb hb xb eb n : Nat} {L : List Bl} {F : Nat → List Int} {V : Value} {G : Nat → Value} {f : Nat → Nat} {lv : Value} {ls : List Int} (B : Bh w0 w qb hb xb eb n L F V G f lv ls) (hk : Kp w w' (xb :: eb :: V.ownBlock.toList)) : Sty w w' := fun b cur q => by
  obtain ⟨ecur, he, -, -⟩ := B.mb.blk
  refine (hk.block b (lt_of_block q) ?_).trans q
  simp only [List.mem_cons, Option.mem_toList, not_or]
  refine ⟨block_ne q B.rh.blk (by decide), block_ne q he (by decide), fun e => ?_⟩
  obtain ⟨-, cur', hc'⟩ := owns_block B.rh.row e
  exact block_ne q hc' (by decide) rfl
section
variable {w0 w w1 w2 : World} {qb hb rb mb pb xb eb n : Nat} {g g' : Mem} {c k : Int} {L L' : List Bl} {F F' : Nat → List Int} {V : Value} {G : Nat → Value} {f f' : Nat → Nat} {lv : Value} {ls : List Int} {X X' : Nat → Prop} {P' : Pcs}
theorem Bo.pushed (B : Bo w0 w qb hb rb mb pb xb eb n g c L F V G f lv ls X) {o : Obj} (hG : (w.alloc o).grownBy w1 lv.ownBlock) : w1.heap[qb]? = some (.cells #[.pointer (some ⟨hb, 0, none⟩), .pointer (some ⟨xb, 0, none⟩), lv] 31 (0, 0)) := by
  have A := B.same (Kp.alloc w o [])
  have k1 : Kp (w.alloc o) w1 lv.ownBlock.toList := Kp.ofGrown hG (by intro g hg; simp [hg])
  refine (k1.block qb (lt_of_block A.bh.pr) ?_).trans A.bh.pr
  intro hm
  simp only [Option.mem_toList] at hm
  obtain ⟨-, cur, h2⟩ := owns_block A.bh.is hm
  exact block_ne A.bh.pr h2 (by decide) rfl
theorem Bo.push (B : Bo w0 w qb hb rb mb pb xb eb n g c L F V G f lv ls X) {o : Obj} (hG : (w.alloc o).grownBy w1 lv.ownBlock) {v : Value} {b : Int} (hI : Is w1 w0.heap.size v (ls ++ [b])) (hv : v.ownBlock = lv.ownBlock ∨ v.ownBlock = some (w.alloc o).heap.size) (hbb : 0 ≤ b ∧ b ≤ 65536) :
    Bo w0 (w1.setCell ⟨qb, 2, none⟩ v) qb hb rb mb pb xb eb n g c L F V G f v (ls ++ [b]) X := by
  have A := B.same (Kp.alloc w o [])
  have k1 : Kp (w.alloc o) w1 lv.ownBlock.toList := Kp.ofGrown hG (by intro g hg; simp [hg])
  have tl : ∀ g, lv.ownBlock = some g → ∃ cur, (w.alloc o).heap[g]? = some (.cells cur 3 (0, 0)) ∧ w0.heap.size ≤ g := fun g hg => by
    obtain ⟨h1, cur, h2⟩ := owns_block A.bh.is hg
    exact ⟨cur, h2, h1⟩
  have pr1 : w1.heap[qb]? = some (.cells #[.pointer (some ⟨hb, 0, none⟩), .pointer (some ⟨xb, 0, none⟩), lv] 31 (0, 0)) := (k1.block qb (lt_of_block A.bh.pr) (by
    intro hm
    simp only [Option.mem_toList] at hm
    obtain ⟨cur, h1, -⟩ := tl _ hm
    exact block_ne A.bh.pr h1 (by decide) rfl)).trans A.bh.pr
  have k2 : Kp w1 (w1.setCell ⟨qb, 2, none⟩ v) [qb] := Kp.setCell w1 ⟨qb, 2, none⟩ v
  have kk : Kp (w.alloc o) (w1.setCell ⟨qb, 2, none⟩ v) (qb :: lv.ownBlock.toList) := (k1.mono (fun x hx _ => List.mem_cons_of_mem _ hx)).trans (k2.mono (fun x hx _ => by simp at hx; simp [hx]))
  obtain ⟨ecur, he, -, -⟩ := A.bh.mb.blk
  have off : ∀ b cur t, (w.alloc o).heap[b]? = some (.cells cur t (0, 0)) → t ≠ 31 → t ≠ 3 → b ∉ qb :: lv.ownBlock.toList := fun b cur t hc h1 h2 => by
    simp only [List.mem_cons, Option.mem_toList, not_or]
    refine ⟨block_ne hc A.bh.pr h1, fun e => ?_⟩
    obtain ⟨cur', hc', -⟩ := tl _ e
    exact block_ne hc hc' h2 rfl
  have hq := A.hp.off4 A.bh.pr (by decide) (by decide) (.inl (by decide))
  have hl4 : ∀ g, lv.ownBlock = some g → g ≠ hb ∧ g ≠ rb ∧ g ≠ mb ∧ g ≠ pb := fun g hg => by
    obtain ⟨cur, hc, -⟩ := tl g hg
    exact A.hp.off4 hc (by decide) (by decide) (.inl (by decide))
  have z0 := A.bh.z0
  have lo := A.bh.lo
  refine ⟨⟨?_, ?_, ?_, ?_, lo, ?_, ?_, ?_, z0⟩, ?_, A.hs, A.ag, A.ne, A.lo, A.n8⟩
  · rw [heap_setCell_same w1 qb 2 _ 31 _ pr1]
    rfl
  · refine hI.kp k2 fun g hg => ?_
    obtain ⟨-, cur, hc⟩ := owns_block hI hg
    have := block_ne hc pr1 (by decide)
    simpa using this
  · refine A.bh.rh.keep kk (off _ _ _ A.bh.rh.blk (by decide) (by decide)) (fun g hg => ?_) (fun c g hc hg => ?_)
    · obtain ⟨-, cur, hc⟩ := owns_block A.bh.rh.row hg
      exact off g _ _ hc (by decide) (by decide)
    · simp only [List.mem_cons, Option.mem_toList, not_or]
      obtain ⟨-, cur, hcc⟩ := owns_block (A.bh.rh.lst c hc) hg
      exact ⟨block_ne hcc A.bh.pr (by decide), fun e => A.bh.lf g e c hc hg⟩
  · exact A.bh.mb.keep kk (off _ _ _ he (by decide) (by decide))
  · intro g hg c hc e
    rcases hv with q | q
    · exact A.bh.lf g (q ▸ hg) c hc e
    · obtain ⟨-, cur, hcc⟩ := owns_block (A.bh.rh.lst c hc) e
      have := lt_of_block hcc
      have hg' : g = (w.alloc o).heap.size := (Option.some.inj (q.symm.trans hg)).symm
      omega
  · intro x hx
    simp only [List.mem_append, List.mem_singleton] at hx
    rcases hx with q | rfl
    · exact A.bh.bd x q
    · exact hbb
  · refine A.bh.kp.past kk ?_
    intro k hm hl
    simp only [List.mem_cons, Option.mem_toList] at hm
    rcases hm with e | e
    · omega
    · obtain ⟨-, -, h1⟩ := tl _ e
      omega
  · refine A.hp.keep kk ?_ ?_ ?_ ?_ ?_
    all_goals (
      simp only [List.mem_cons, Option.mem_toList, not_or]
      refine ⟨by omega, fun e => ?_⟩
      have := hl4 _ e
      obtain ⟨-, -, h1⟩ := tl _ e
      omega)
theorem inq_bd (h : Hs n g L F) {o : Int} (h4 : o % 4 = 0) (hq : inQ (piecesOf L) o) : 120 ≤ o ∧ o + 4 ≤ n ∧ n ≤ 65536 := by
  obtain ⟨p, hp, h1, h2⟩ := hq
  have := h.ok p hp
  have := h.rep.nn
  omega
theorem inq_has (h : Hs n g L F) {o : Int} (h4 : o % 4 = 0) (hq : inQ (piecesOf L) o) : hasWd n (piecesOf L) o = true ∧ hasW n o = true := by
  have b := inq_bd h h4 hq
  exact ⟨(hasWd_iff h o).2 ⟨by omega, h4, hq⟩, hasW_of (by omega) h4 (by omega)⟩
/-- The reference's word is set. -/
theorem Bo.rset (B : Bo w0 w qb hb rb mb pb xb eb n g c L F V G f lv ls X) {o W : Nat} (h4 : o % 4 = 0) (hM : Mb w1 eb n (setF f o W 4)) (hk : Kp w w1 [eb]) :
    ∃ V' G', Bo w0 w1 qb hb rb mb pb xb eb n g c L F V' G' (setF f o W 4) lv ls (fun p => X p ∨ p = o) := by
  have hR : Rm w w1 xb eb n V G L F (setF f o W 4) := ⟨V, G, B.bh.rh.bytes B.bh.mb hk, hM, hk.mono (fun x hx _ => by simp at hx; simp [hx]), Nw.refl⟩
  obtain ⟨V', G', b2⟩ := B.bh.ref hR
  refine ⟨V', G', b2, B.hp.over B.bh B.ne (hk.mono (fun x hx _ => by simp at hx; simp [hx])), B.hs, fun p p4 hq hx => ?_, B.ne, B.lo, B.n8⟩
  rw [upW_off h4 p4 (fun e => hx (.inr e))]
  exact B.ag p p4 hq (fun q => hx (.inl q))
/-- The program's word is set, as the reference's was. -/
theorem Bo.pset (B : Bo w0 w qb hb rb mb pb xb eb n g c L F V G f lv ls X) {o W : Nat} {rows : List Nat} (h4 : o % 4 = 0) (hq : inQ (piecesOf L) o) (hW : upW f o 4 = W) (h1 : Went w w1 hb rb mb pb n (wr n g o W) (piecesOf L) c k rows) (hr : ∀ x ∈ rows, x ∈ [rb, mb, pb]) :
    ∃ c', c ≤ c' ∧ c' ≤ c + k ∧ Bo w0 w1 qb hb rb mb pb xb eb n (wr n g o W) c' L F V G f lv ls (fun p => X p ∧ p ≠ o) := by
  have h2 := h1.more hr (Int.le_refl k)
  have bh := B.half h2
  obtain ⟨c', l1, l2, hH, -⟩ := h2
  have hw := (inq_has B.hs (o := o) (by omega) hq).2
  have he : wr n g o W = upd g o W := by unfold wr; rw [if_pos hw]; simp
  refine ⟨c', l1, l2, bh, hH, ?_, fun p p4 hp hx => ?_, B.ne, B.lo, B.n8⟩
  · rw [he]
    have := hs_set B.hs (o := o) (by omega) hq W
    simpa using this
  · rw [he]
    unfold upd
    by_cases e : p = o
    · subst e
      rw [if_pos rfl, hW]
    · rw [if_neg e]
      exact B.ag p p4 hp (fun q => hx ⟨q, e⟩)
/-- What both read there. -/
theorem Bo.word (B : Bo w0 w qb hb rb mb pb xb eb n g c L F V G f lv ls X) {o : Nat} (h4 : o % 4 = 0) (hq : inQ (piecesOf L) o) (hx : ¬ X o) : rd n g o = (upW f o 4 : Int) := by
  rw [rd_has (inq_has B.hs (o := o) (by omega) hq).2]
  have := B.ag o h4 hq hx
  simpa using this.symm
theorem Bo.less4 (B : Bo w0 w qb hb rb mb pb xb eb n g c L F V G f lv ls X) (h : ∀ o : Nat, o % 4 = 0 → X o → X' o) : Bo w0 w qb hb rb mb pb xb eb n g c L F V G f lv ls X' :=
  ⟨B.bh, B.hp, B.hs, fun o h4 hq hx => B.ag o h4 hq (fun q => hx (h o h4 q)), B.ne, B.lo, B.n8⟩
theorem Bo.less (B : Bo w0 w qb hb rb mb pb xb eb n g c L F V G f lv ls X) (h : ∀ o : Nat, X o → X' o) : Bo w0 w qb hb rb mb pb xb eb n g c L F V G f lv ls X' :=
  ⟨B.bh, B.hp, B.hs, fun o h4 hq hx => B.ag o h4 hq (fun q => hx (h o q)), B.ne, B.lo, B.n8⟩
end
end Go.Proofs.YtgefmnnkpffpcaaGreatDoor
