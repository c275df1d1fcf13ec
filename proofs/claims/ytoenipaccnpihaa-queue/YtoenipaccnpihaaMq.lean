/- A map by thread and number: what it holds, as a function. -/
import Derived.Test.YtoenipaccnpihaaMk
namespace Go.Proofs.Ytoenipaccnpihaa
open Go.RowKit Go.Shelf Go.Lib Go.Sort Go.Maps
attribute [local go_sem] Oper.semAt_some

open Go.ChangeMaps (setBlock)
open Go.WideElems (Fit rd rg)
/-- An element is the slice's value itself. -/
def RQ (v : Value) : Option (DataW Value × List MemPlace) := some (.held v, [])
abbrev QF := Nat → Nat → Option Value
/-- What a map's datum holds. -/
structure HD (D : DataW Value) (F : QF) : Prop where
  tidy : Tidy D
  lits : ∃ es, D = .map es ∧ ∀ p ∈ es, WideAt.IsKeyLit p.1
  key : ∀ l, has D l = true → ∃ t n, t < 16 ∧ n < 32 ∧ l = kl t n
  has : ∀ t n, t < 16 → n < 32 → has D (kl t n) = (F t n).isSome
  at_ : ∀ t n v, t < 16 → n < 32 → F t n = some v → ∀ z, D.atKey (kl t n) z = .held v
def setF (F : QF) (t n : Nat) (v : Option Value) : QF := fun t' n' => if t' = t ∧ n' = n then v else F t' n'
theorem lits_put {D : DataW Value} {k : Lit} {d : DataW Value} (h : ∃ es, D = .map es ∧ ∀ p ∈ es, WideAt.IsKeyLit p.1) (hk : WideAt.IsKeyLit k) : ∃ es, D.put k d = .map es ∧ ∀ p ∈ es, WideAt.IsKeyLit p.1 := by
  obtain ⟨es, rfl, h⟩ := h
  refine ⟨_, rfl, fun p hp => ?_⟩
  rcases ChangeMaps.mem_insert_iff.1 hp with rfl | hp
  · exact hk
  · exact h p (List.mem_filter.1 hp).1
theorem lits_del {D : DataW Value} {k : Lit} (h : ∃ es, D = .map es ∧ ∀ p ∈ es, WideAt.IsKeyLit p.1) : ∃ es, D.del k = .map es ∧ ∀ p ∈ es, WideAt.IsKeyLit p.1 := by
  obtain ⟨es, rfl, h⟩ := h
  exact ⟨_, rfl, fun p hp => h p (List.mem_filter.1 hp).1⟩
theorem HD.nil : HD (.map []) (fun _ _ => none) := ⟨tidy_empty, ⟨[], rfl, by simp⟩, by simp [has_eq], by simp [has_eq], by simp⟩
theorem HD.put {D : DataW Value} {F : QF} (h : HD D F) {t n : Nat} (ht : t < 16) (hn : n < 32) (v : Value) : HD (D.put (kl t n) (.held v)) (setF F t n (some v)) := by
  refine ⟨h.tidy.put (kl_key ht hn) _, lits_put h.lits (kl_key ht hn), fun l hl => ?_, fun t' n' ht' hn' => ?_, fun t' n' v' ht' hn' hF z => ?_⟩
  · by_cases e : l = kl t n
    · exact ⟨t, n, ht, hn, e⟩
    · rw [has_put_other e] at hl
      exact h.key l hl
  · unfold setF
    by_cases e : t' = t ∧ n' = n
    · obtain ⟨rfl, rfl⟩ := e
      simp [has_put_same h.tidy.isMap (kl_key ht hn)]
    · rw [if_neg e, has_put_other (kl_ne ht hn ht' hn' e)]
      exact h.has t' n' ht' hn'
  · unfold setF at hF
    by_cases e : t' = t ∧ n' = n
    · rw [if_pos e] at hF
      obtain ⟨rfl, rfl⟩ := e
      rw [atKey_put_same h.tidy.isMap (kl_key ht hn), Option.some.inj hF]
    · rw [if_neg e] at hF
      rw [atKey_put_other (kl_ne ht hn ht' hn' e)]
      exact h.at_ t' n' v' ht' hn' hF z
theorem HD.del {D : DataW Value} {F : QF} (h : HD D F) {t n : Nat} (ht : t < 16) (hn : n < 32) : HD (D.del (kl t n)) (setF F t n none) := by
  refine ⟨h.tidy.del _, lits_del h.lits, fun l hl => ?_, fun t' n' ht' hn' => ?_, fun t' n' v' ht' hn' hF z => ?_⟩
  · by_cases e : l = kl t n
    · exact ⟨t, n, ht, hn, e⟩
    · rw [has_del_other e] at hl
      exact h.key l hl
  · unfold setF
    by_cases e : t' = t ∧ n' = n
    · obtain ⟨rfl, rfl⟩ := e
      simp [has_del_same]
    · rw [if_neg e, has_del_other (kl_ne ht hn ht' hn' e)]
      exact h.has t' n' ht' hn'
  · unfold setF at hF
    by_cases e : t' = t ∧ n' = n
    · rw [if_pos e] at hF
      cases hF
    · rw [if_neg e] at hF
      rw [atKey_del_other (kl_ne ht hn ht' hn' e)]
      exact h.at_ t' n' v' ht' hn' hF z
/-- All keys that may be. -/
def ks : List (Nat × Nat) := (List.range 16).flatMap fun t => (List.range 32).map fun n => (t, n)
theorem mem_ks {k : Nat × Nat} : k ∈ ks ↔ k.1 < 16 ∧ k.2 < 32 := by
  unfold ks
  simp only [List.mem_flatMap, List.mem_range, List.mem_map]
  constructor
  · rintro ⟨t, ht, n, hn, rfl⟩
    exact ⟨ht, hn⟩
  · intro h
    exact ⟨k.1, h.1, k.2, h.2, rfl⟩
theorem ks_nums : ks.map (fun k => 32 * k.1 + k.2) = List.range 512 := by decide +kernel
theorem nodup_ks : ks.Nodup := by
  have h : (ks.map fun k => 32 * k.1 + k.2).Nodup := by
    rw [ks_nums]
    exact List.nodup_range
  exact (List.pairwise_map.1 h).imp fun h e => h (by rw [e])
/-- How many keys a map has. -/
theorem HD.cnt {D : DataW Value} {F : QF} (h : HD D F) : Maps.size D = (ks.filter fun k => (F k.1 k.2).isSome).length := by
  obtain ⟨es, rfl, hp⟩ := h.tidy
  have keysOk : ∀ p ∈ es, WideAt.IsKeyLit p.1 := by
    obtain ⟨es', e, hl⟩ := h.lits
    cases e
    exact hl
  have h1 : (es.map (·.1)).Nodup := List.pairwise_map.2 hp
  have h2 : ((ks.filter fun k => (F k.1 k.2).isSome).map fun k => kl k.1 k.2).Nodup := by
    refine List.pairwise_map.2 (List.Pairwise.imp_of_mem ?_ (nodup_ks.filter _))
    intro a b ha hb hne e
    have ha' := mem_ks.1 (List.mem_filter.1 ha).1
    have hb' := mem_ks.1 (List.mem_filter.1 hb).1
    have := kl_inj ha'.1 ha'.2 hb'.1 hb'.2 e
    exact hne (Prod.ext this.1 this.2)
  have hm : ∀ l, l ∈ es.map (·.1) ↔ l ∈ (ks.filter fun k => (F k.1 k.2).isSome).map fun k => kl k.1 k.2 := by
    intro l
    constructor
    · intro hl
      obtain ⟨p, hp, rfl⟩ := List.mem_map.1 hl
      have hh : Maps.has (.map es) p.1 = true ∨ ¬ WideAt.IsKeyLit p.1 := by
        by_cases hk : WideAt.IsKeyLit p.1
        · exact .inl (by rw [has_eq]; exact List.any_eq_true.2 ⟨p, hp, WideAt.sameKey_self hk⟩)
        · exact .inr hk
      rcases hh with hh | hh
      · obtain ⟨t, n, ht, hn, e⟩ := h.key _ hh
        have := h.has t n ht hn
        rw [e] at hh
        rw [hh] at this
        exact List.mem_map.2 ⟨(t, n), List.mem_filter.2 ⟨mem_ks.2 ⟨ht, hn⟩, this.symm⟩, e.symm⟩
      · exact (hh (keysOk p hp)).elim
    · intro hl
      obtain ⟨k, hk, rfl⟩ := List.mem_map.1 hl
      obtain ⟨hk1, hk2⟩ := List.mem_filter.1 hk
      have hk' := mem_ks.1 hk1
      have := h.has k.1 k.2 hk'.1 hk'.2
      rw [hk2, has_eq] at this
      obtain ⟨p, hp, e⟩ := List.any_eq_true.1 this
      exact List.mem_map.2 ⟨p, hp, WideAt.sameKey_eq e⟩
  have := ((List.perm_ext_iff_of_nodup h1 h2).2 hm).length_eq
  rw [Maps.size_eq]
  simpa using this
theorem HD.few {D : DataW Value} {F : QF} (h : HD D F) : Maps.size D ≤ 512 := by
  rw [h.cnt]
  have h1 := List.length_filter_le (fun k => (F k.1 k.2).isSome) ks
  have h2 : ks.length = 512 := by decide +kernel
  omega
/-- A map in memory. -/
def Mq (w : World) (b : Nat) (F : QF) : Prop := ∃ D, w.ownsMap Try.prog 78 RQ b 512 D ∧ HD D F
theorem owns_few {w : World} {b n : Nat} {D : DataW Value} {F : QF} (h : w.ownsMap Try.prog 78 RQ b n D) (hd : HD D F) : w.ownsMap Try.prog 78 RQ b 512 D := by
  have hf := hd.few
  obtain ⟨es, clock, hb, hF, hs, hD⟩ := h
  refine ⟨es, clock, hb, hF, ?_, hD⟩
  have := congrArg Maps.size hD
  rw [Maps.size_eq, length_sorted] at this
  simp at this
  omega
theorem Mq.obj {w : World} {b : Nat} {F : QF} (h : Mq w b F) : ∃ es clock, w.heap[b]? = some (.map es clock) := by
  obtain ⟨D, ⟨es, clock, hb, -⟩, -⟩ := h
  exact ⟨es, clock, hb⟩
theorem Mq.keep {w w' : World} {b : Nat} {F : QF} (h : Mq w b F) {rows : List Nat} (hk : Kp w w' rows) (h1 : b ∉ rows) : Mq w' b F := by
  obtain ⟨D, ⟨es, clock, hb, h2⟩, hd⟩ := h
  exact ⟨D, ⟨es, clock, (hk.block b (lt_of_block hb) h1).trans hb, h2⟩, hd⟩
theorem Mq.congr {w : World} {b : Nat} {F G : QF} (h : Mq w b F) (e : ∀ t n, t < 16 → n < 32 → F t n = G t n) : Mq w b G := by
  obtain ⟨D, ho, hd⟩ := h
  exact ⟨D, ho, hd.tidy, hd.lits, hd.key, fun t n ht hn => by rw [← e t n ht hn]; exact hd.has t n ht hn, fun t n v ht hn hF => hd.at_ t n v ht hn (by rw [e t n ht hn]; exact hF)⟩
theorem mq_made (w : World) : Mq (w.alloc (.map #[] 0)) w.heap.size (fun _ _ => none) := ⟨_, (World.ownsMap_made w Try.prog 78 RQ).mono (by omega), HD.nil⟩
theorem Mq.look {w : World} {b : Nat} {F : QF} (h : Mq w b F) {t n : Nat} (ht : t < 16) (hn : n < 32) :
    (Instr.lookup 59 (.map (some b)) (key t n) false).run Try.prog w = .ok ((F t n).getD (.slice none 0 0)) w := by
  obtain ⟨D, ho, hd⟩ := h
  obtain ⟨v, ps, hrun, hv⟩ := World.ownsMap.lookup ho keyed78 Try.underlying59 (Try.zeroValue43 w) (zd := .held (.slice none 0 0)) (zp := []) rfl (kl_eq ht hn)
  rw [hrun]
  have h1 : DataW.held v = D.atKey (kl t n) (.held (.slice none 0 0)) := by
    unfold RQ at hv
    simp only [Option.some.injEq, Prod.mk.injEq] at hv
    exact hv.1
  cases hF : F t n with
  | none =>
    have := hd.has t n ht hn
    rw [hF] at this
    rw [atKey_of_not_has this] at h1
    injection h1 with h1
    subst h1
    rfl
  | some v' =>
    rw [hd.at_ t n v' ht hn hF] at h1
    injection h1 with h1
    subst h1
    rfl
theorem Mq.look_ok {w : World} {b : Nat} {F : QF} (h : Mq w b F) {t n : Nat} (ht : t < 16) (hn : n < 32) :
    (Instr.lookup 59 (.map (some b)) (key t n) true).run Try.prog w = .ok (.tuple #[(F t n).getD (.slice none 0 0), .bool (F t n).isSome]) w := by
  obtain ⟨D, ho, hd⟩ := h
  obtain ⟨v, ps, hrun, hv⟩ := World.ownsMap.look_ok ho keyed78 Try.underlying59 (Try.zeroValue43 w) (zd := .held (.slice none 0 0)) (zp := []) rfl (kl_eq ht hn)
  rw [hrun, hd.has t n ht hn]
  have h1 : DataW.held v = D.atKey (kl t n) (.held (.slice none 0 0)) := by
    unfold RQ at hv
    simp only [Option.some.injEq, Prod.mk.injEq] at hv
    exact hv.1
  cases hF : F t n with
  | none =>
    have := hd.has t n ht hn
    rw [hF] at this
    rw [atKey_of_not_has this] at h1
    injection h1 with h1
    subst h1
    rfl
  | some v' =>
    rw [hd.at_ t n v' ht hn hF] at h1
    injection h1 with h1
    subst h1
    rfl
theorem Mq.store {w : World} {b : Nat} {F : QF} (h : Mq w b F) {t n : Nat} (ht : t < 16) (hn : n < 32) (v : Value) :
    ∃ w', (Instr.mapUpdate 59 (.map (some b)) (key t n) v).run Try.prog w = .ok () w' ∧ Mq w' b (setF F t n (some v)) ∧ Kp w w' [b] ∧ w'.heap.size = w.heap.size := by
  obtain ⟨D, ho, hd⟩ := h
  obtain ⟨w', hrun, r1, r2⟩ := World.ownsMap.store ho keyed78 Try.underlying59 (by unfold maxLen; omega) (kl_eq ht hn) (show RQ v = some (.held v, []) from rfl)
  refine ⟨w', hrun, ⟨_, owns_few r1 (hd.put ht hn v), hd.put ht hn v⟩, Kp.turned r2, ?_⟩
  obtain ⟨_, _, _, _, _, rfl⟩ := r2
  simp [setBlock]
theorem Mq.drop {w : World} {b : Nat} {F : QF} (h : Mq w b F) {t n : Nat} (ht : t < 16) (hn : n < 32) (ty : TypeId) :
    ∃ w', (Builtin.delete_ #[59, 78] ty #[.map (some b), key t n]).run Try.prog w = .ok (.tuple #[]) w' ∧ Mq w' b (setF F t n none) ∧ Kp w w' [b] ∧ w'.heap.size = w.heap.size := by
  obtain ⟨D, ho, hd⟩ := h
  obtain ⟨w', hrun, r1, r2⟩ := World.ownsMap.drop ho keyed78 Try.underlying59 (kl_eq ht hn) ty
  refine ⟨w', hrun, ⟨_, owns_few r1 (hd.del ht hn), hd.del ht hn⟩, Kp.turned r2, ?_⟩
  obtain ⟨_, _, _, _, _, rfl⟩ := r2
  simp [setBlock]
theorem Mq.len {w : World} {b : Nat} {F : QF} (h : Mq w b F) (ty : TypeId) : (Builtin.len_ #[59] ty #[.map (some b)]).run Try.prog w = .ok (.int .i64 (ks.filter fun k => (F k.1 k.2).isSome).length) w := by
  obtain ⟨D, ho, hd⟩ := h
  rw [← hd.cnt]
  exact World.ownsMap.len ho Try.underlying59 ty
/-- An entry that is made, or found; and what is laid into it. -/
theorem Mq.entry {w : World} {b : Nat} {F : QF} (h : Mq w b F) {t n : Nat} (ht : t < 16) (hn : n < 32) : ∃ st w1, (Instr.mapEntry 59 (.map (some b)) (key t n)).run Try.prog w = .ok (.tuple #[(F t n).getD (.slice none 0 0), .int .i64 st]) w1 ∧ Kp w w1 [b] ∧ w1.heap.size = w.heap.size ∧
    ∀ (w2 : World) (v : Value), w2.heap[b]? = w1.heap[b]? → ∃ w3, (Instr.entryStore 59 (.map (some b)) (.int .i64 st) v).run Try.prog w2 = .ok () w3 ∧ Mq w3 b (setF F t n (some v)) ∧ Kp w2 w3 [b] ∧ w3.heap.size = w2.heap.size := by
  have hlk := h.look ht hn
  obtain ⟨D, ho, hd⟩ := id h
  obtain ⟨es, clock, hb, hF, hs, hD⟩ := ho
  obtain ⟨v0, st, es1, clock1, hr, hv0, hst⟩ := WideElems.entry_then_store law78 Try.underlying59 Try.zeroValue43 hb hF (kl_eq ht hn)
  have hv : v0 = (F t n).getD (.slice none 0 0) := by
    have hfl := fit_look false keyed78 Try.underlying59 (Try.zeroValue43 w) hb hF (kl_eq ht hn)
    rcases hfl with ⟨h1, h2, -⟩ | ⟨e0, y, h1, h2, h3, -⟩
    · rcases hv0 with ⟨e0, a1, a2, -⟩ | ⟨-, rfl⟩
      · exact (h2 e0 a1 a2).elim
      · have := hlk.symm.trans h1
        simpa using this.symm
    · have h4 := hlk.symm.trans h3
      have h4 : e0.val = (F t n).getD (.slice none 0 0) := by simpa using h4.symm
      rcases hv0 with ⟨e1, a1, a2, rfl⟩ | ⟨a1, -⟩
      · rw [← h4, entry_eq_of_key ((MapKept.stamped_iff es clock).1 hF.stamped).2.2 a1 h1 (a2.trans h2.symm)]
      · exact (a1 e0 h1 h2).elim
  subst hv
  refine ⟨st, _, hr, ⟨rfl, rfl, rfl, by simp [setBlock], fun k hk hn => ChangeMaps.heap_setBlock_other hb _ (by simp at hn; exact hn)⟩, by simp [setBlock], fun w2 v hw2 => ?_⟩
  rw [ChangeMaps.heap_setBlock_same hb] at hw2
  obtain ⟨es', clock', e1, e2⟩ := hst w2 v hw2
  refine ⟨_, e1, ?_, ⟨rfl, rfl, rfl, by simp [setBlock], fun k hk hn => ChangeMaps.heap_setBlock_other hw2 _ (by simp at hn; exact hn)⟩, by simp [setBlock]⟩
  obtain ⟨w', hrun, ⟨D', ⟨es2, clock2, hb2, hrest⟩, hd'⟩, -, -⟩ := h.store ht hn v
  have := hrun.symm.trans e2
  injection this with _ this
  subst this
  rw [ChangeMaps.heap_setBlock_same hb] at hb2
  injection hb2 with hb2
  injection hb2 with e3 e4
  subst e3 e4
  exact ⟨D', ⟨_, _, ChangeMaps.heap_setBlock_same hw2 _, hrest⟩, hd'⟩
end Go.Proofs.Ytoenipaccnpihaa
