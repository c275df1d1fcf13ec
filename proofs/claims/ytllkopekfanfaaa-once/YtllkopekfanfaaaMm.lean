/- A map by threads, of messages: what it holds, as a function. -/
import Derived.Maps.RangeWalk
import Derived.Maps.OwnSet
import Derived.Test.YtllkopekfanfaaaPl
namespace Go.Proofs.Ytllkopekfanfaaa
open Go.RowKit Go.Shelf Go.Lib Go.Sort Go.Maps
attribute [local go_sem] Oper.semAt_some

open Go.ChangeMaps (setBlock)
open Go.WideElems (Fit rd rg)
/-- A message, as a value. -/
def mv (m : Int × Int) : Value := .agg #[.int .i64 m.1, .int .i64 m.2]
theorem mv_inj {a b : Int × Int} (h : mv a = mv b) : a = b := by
  unfold mv at h
  simp at h
  exact Prod.ext h.1 h.2
/-- An element is the message's value itself. -/
def RM (v : Value) : Option (DataW Value × List MemPlace) := some (.held v, [])
def kt (t : Int) : Lit := .int .i64 t
theorem kt_eq {t : Int} (h : 0 ≤ t ∧ t < 16) : keyOf Try.prog 3 (.int .i64 t) = some (kt t) := keyOf_int_mk Try.underlying3 (wf64 (by omega) (by omega))
theorem kt_key {t : Int} (h : 0 ≤ t ∧ t < 16) : WideAt.IsKeyLit (kt t) := keyed3.key (kt_eq h)
theorem kt_ne {t t' : Int} (h : t' ≠ t) : kt t' ≠ kt t := fun e => h (by unfold kt at e; simpa using e)
theorem lits_put {D : DataW Value} {k : Lit} {d : DataW Value} (h : ∃ es, D = .map es ∧ ∀ p ∈ es, WideAt.IsKeyLit p.1) (hk : WideAt.IsKeyLit k) : ∃ es, D.put k d = .map es ∧ ∀ p ∈ es, WideAt.IsKeyLit p.1 := by
  obtain ⟨es, rfl, h⟩ := h
  refine ⟨_, rfl, fun p hp => ?_⟩
  rcases ChangeMaps.mem_insert_iff.1 hp with rfl | hp
  · exact hk
  · exact h p (List.mem_filter.1 hp).1
theorem lits_del {D : DataW Value} {k : Lit} (h : ∃ es, D = .map es ∧ ∀ p ∈ es, WideAt.IsKeyLit p.1) : ∃ es, D.del k = .map es ∧ ∀ p ∈ es, WideAt.IsKeyLit p.1 := by
  obtain ⟨es, rfl, h⟩ := h
  exact ⟨_, rfl, fun p hp => h p (List.mem_filter.1 hp).1⟩
/-- What a map's datum holds. -/
structure HD (D : DataW Value) (F : MF) : Prop where
  tidy : Tidy D
  lits : ∃ es, D = .map es ∧ ∀ p ∈ es, WideAt.IsKeyLit p.1
  key : ∀ l, has D l = true → ∃ t, (0 ≤ t ∧ t < 16) ∧ l = kt t
  has : ∀ t, 0 ≤ t ∧ t < 16 → has D (kt t) = (F t).isSome
  at_ : ∀ t v, 0 ≤ t ∧ t < 16 → F t = some v → ∀ z, D.atKey (kt t) z = .held (mv v)
theorem HD.nil : HD (.map []) (fun _ => none) := ⟨tidy_empty, ⟨[], rfl, by simp⟩, by simp [has_eq], by simp [has_eq], by simp⟩
theorem HD.put {D : DataW Value} {F : MF} (h : HD D F) {t : Int} (ht : 0 ≤ t ∧ t < 16) (v : Int × Int) : HD (D.put (kt t) (.held (mv v))) (setF F t (some v)) := by
  refine ⟨h.tidy.put (kt_key ht) _, lits_put h.lits (kt_key ht), fun l hl => ?_, fun t' ht' => ?_, fun t' v' ht' hF z => ?_⟩
  · by_cases e : l = kt t
    · exact ⟨t, ht, e⟩
    · rw [has_put_other e] at hl
      exact h.key l hl
  · unfold setF
    by_cases e : t' = t
    · subst e
      simp [has_put_same h.tidy.isMap (kt_key ht)]
    · rw [if_neg e, has_put_other (kt_ne e)]
      exact h.has t' ht'
  · unfold setF at hF
    by_cases e : t' = t
    · rw [if_pos e] at hF
      subst e
      rw [atKey_put_same h.tidy.isMap (kt_key ht), Option.some.inj hF]
    · rw [if_neg e] at hF
      rw [atKey_put_other (kt_ne e)]
      exact h.at_ t' v' ht' hF z
theorem HD.del {D : DataW Value} {F : MF} (h : HD D F) {t : Int} (ht : 0 ≤ t ∧ t < 16) : HD (D.del (kt t)) (setF F t none) := by
  refine ⟨h.tidy.del _, lits_del h.lits, fun l hl => ?_, fun t' ht' => ?_, fun t' v' ht' hF z => ?_⟩
  · by_cases e : l = kt t
    · exact ⟨t, ht, e⟩
    · rw [has_del_other e] at hl
      exact h.key l hl
  · unfold setF
    by_cases e : t' = t
    · subst e
      simp [has_del_same]
    · rw [if_neg e, has_del_other (kt_ne e)]
      exact h.has t' ht'
  · unfold setF at hF
    by_cases e : t' = t
    · rw [if_pos e] at hF
      cases hF
    · rw [if_neg e] at hF
      rw [atKey_del_other (kt_ne e)]
      exact h.at_ t' v' ht' hF z
/-- All keys that may be. -/
def ks : List Int := (List.range 16).map Int.ofNat
theorem mem_ks {k : Int} : k ∈ ks ↔ 0 ≤ k ∧ k < 16 := by
  unfold ks
  simp only [List.mem_map, List.mem_range]
  constructor
  · rintro ⟨n, hn, rfl⟩
    exact ⟨Int.natCast_nonneg n, Int.ofNat_lt.2 hn⟩
  · intro h
    exact ⟨k.toNat, by omega, Int.toNat_of_nonneg h.1⟩
theorem nodup_ks : ks.Nodup := by decide +kernel
/-- How many keys a map has. -/
theorem HD.cnt {D : DataW Value} {F : MF} (h : HD D F) : Maps.size D = (ks.filter fun k => (F k).isSome).length := by
  obtain ⟨es, rfl, hp⟩ := h.tidy
  have keysOk : ∀ p ∈ es, WideAt.IsKeyLit p.1 := by
    obtain ⟨es', e, hl⟩ := h.lits
    cases e
    exact hl
  have h1 : (es.map (·.1)).Nodup := List.pairwise_map.2 hp
  have h2 : ((ks.filter fun k => (F k).isSome).map fun k => kt k).Nodup := by
    refine List.pairwise_map.2 ((nodup_ks.filter _).imp ?_)
    intro a b hne e
    unfold kt at e
    simp at e
    exact hne e
  have hm : ∀ l, l ∈ es.map (·.1) ↔ l ∈ (ks.filter fun k => (F k).isSome).map fun k => kt k := by
    intro l
    constructor
    · intro hl
      obtain ⟨p, hp, rfl⟩ := List.mem_map.1 hl
      have hh : Maps.has (.map es) p.1 = true := by rw [has_eq]; exact List.any_eq_true.2 ⟨p, hp, WideAt.sameKey_self (keysOk p hp)⟩
      obtain ⟨t, ht, e⟩ := h.key _ hh
      have := h.has t ht
      rw [e] at hh
      rw [hh] at this
      exact List.mem_map.2 ⟨t, List.mem_filter.2 ⟨mem_ks.2 ht, this.symm⟩, e.symm⟩
    · intro hl
      obtain ⟨k, hk, rfl⟩ := List.mem_map.1 hl
      obtain ⟨hk1, hk2⟩ := List.mem_filter.1 hk
      have := h.has k (mem_ks.1 hk1)
      rw [hk2, has_eq] at this
      obtain ⟨p, hp, e⟩ := List.any_eq_true.1 this
      exact List.mem_map.2 ⟨p, hp, WideAt.sameKey_eq e⟩
  have := ((List.perm_ext_iff_of_nodup h1 h2).2 hm).length_eq
  rw [Maps.size_eq]
  simpa using this
theorem HD.few {D : DataW Value} {F : MF} (h : HD D F) : Maps.size D ≤ 16 := by
  rw [h.cnt]
  have h1 := List.length_filter_le (fun k => (F k).isSome) ks
  have h2 : ks.length = 16 := by decide +kernel
  omega
/-- A map in memory. -/
def Mm (w : World) (b : Nat) (F : MF) : Prop := ∃ D, w.ownsMap Try.prog 3 RM b 16 D ∧ HD D F
theorem owns_few {w : World} {b n : Nat} {D : DataW Value} {F : MF} (h : w.ownsMap Try.prog 3 RM b n D) (hd : HD D F) : w.ownsMap Try.prog 3 RM b 16 D := by
  have hf := hd.few
  obtain ⟨es, clock, hb, hF, hs, hD⟩ := h
  refine ⟨es, clock, hb, hF, ?_, hD⟩
  have := congrArg Maps.size hD
  rw [Maps.size_eq, length_sorted] at this
  simp at this
  omega
theorem Mm.obj {w : World} {b : Nat} {F : MF} (h : Mm w b F) : ∃ es clock, w.heap[b]? = some (.map es clock) := by
  obtain ⟨D, ⟨es, clock, hb, -⟩, -⟩ := h
  exact ⟨es, clock, hb⟩
theorem Mm.keep {w w' : World} {b : Nat} {F : MF} (h : Mm w b F) {rows : List Nat} (hk : Kp w w' rows) (h1 : b ∉ rows) : Mm w' b F := by
  obtain ⟨D, ⟨es, clock, hb, h2⟩, hd⟩ := h
  exact ⟨D, ⟨es, clock, (hk.block b (lt_of_block hb) h1).trans hb, h2⟩, hd⟩
theorem Mm.congr {w : World} {b : Nat} {F G : MF} (h : Mm w b F) (e : ∀ t, 0 ≤ t ∧ t < 16 → F t = G t) : Mm w b G := by
  obtain ⟨D, ho, hd⟩ := h
  exact ⟨D, ho, hd.tidy, hd.lits, hd.key, fun t ht => by rw [← e t ht]; exact hd.has t ht, fun t v ht hF => hd.at_ t v ht (by rw [e t ht]; exact hF)⟩
theorem mm_made (w : World) : Mm (w.alloc (.map #[] 0)) w.heap.size (fun _ => none) := ⟨_, (World.ownsMap_made w Try.prog 3 RM).mono (by omega), HD.nil⟩
theorem Mm.look {w : World} {b : Nat} {F : MF} (h : Mm w b F) {t : Int} (ht : 0 ≤ t ∧ t < 16) :
    (Instr.lookup 61 (.map (some b)) (.int .i64 t) false).run Try.prog w = .ok (mv ((F t).getD (0, 0))) w := by
  obtain ⟨D, ho, hd⟩ := h
  obtain ⟨v, ps, hrun, hv⟩ := World.ownsMap.lookup ho keyed3 Try.underlying61 (Try.zeroValue34 w) (zd := .held (mv (0, 0))) (zp := []) rfl (kt_eq ht)
  rw [hrun]
  have h1 : DataW.held v = D.atKey (kt t) (.held (mv (0, 0))) := by
    unfold RM at hv
    simp only [Option.some.injEq, Prod.mk.injEq] at hv
    exact hv.1
  cases hF : F t with
  | none =>
    have := hd.has t ht
    rw [hF] at this
    rw [atKey_of_not_has this] at h1
    rw [DataW.held.inj h1]
    rfl
  | some v' =>
    rw [hd.at_ t v' ht hF] at h1
    rw [DataW.held.inj h1]
    rfl
theorem Mm.look_ok {w : World} {b : Nat} {F : MF} (h : Mm w b F) {t : Int} (ht : 0 ≤ t ∧ t < 16) :
    (Instr.lookup 61 (.map (some b)) (.int .i64 t) true).run Try.prog w = .ok (.tuple #[mv ((F t).getD (0, 0)), .bool (F t).isSome]) w := by
  obtain ⟨D, ho, hd⟩ := h
  obtain ⟨v, ps, hrun, hv⟩ := World.ownsMap.look_ok ho keyed3 Try.underlying61 (Try.zeroValue34 w) (zd := .held (mv (0, 0))) (zp := []) rfl (kt_eq ht)
  rw [hrun, show Maps.has D (kt t) = (F t).isSome from hd.has t ht]
  have h1 : DataW.held v = D.atKey (kt t) (.held (mv (0, 0))) := by
    unfold RM at hv
    simp only [Option.some.injEq, Prod.mk.injEq] at hv
    exact hv.1
  cases hF : F t with
  | none =>
    have := hd.has t ht
    rw [hF] at this
    rw [atKey_of_not_has this] at h1
    rw [DataW.held.inj h1]
    rfl
  | some v' =>
    rw [hd.at_ t v' ht hF] at h1
    rw [DataW.held.inj h1]
    rfl
theorem Mm.store {w : World} {b : Nat} {F : MF} (h : Mm w b F) {t : Int} (ht : 0 ≤ t ∧ t < 16) (v : Int × Int) :
    ∃ w', (Instr.mapUpdate 61 (.map (some b)) (.int .i64 t) (mv v)).run Try.prog w = .ok () w' ∧ Mm w' b (setF F t (some v)) ∧ Kp w w' [b] ∧ w'.heap.size = w.heap.size := by
  obtain ⟨D, ho, hd⟩ := h
  obtain ⟨w', hrun, r1, r2⟩ := World.ownsMap.store ho keyed3 Try.underlying61 (by unfold maxLen; omega) (kt_eq ht) (show RM (mv v) = some (.held (mv v), []) from rfl)
  refine ⟨w', hrun, ⟨_, owns_few r1 (hd.put ht v), hd.put ht v⟩, Kp.turned r2, ?_⟩
  obtain ⟨_, _, _, _, _, rfl⟩ := r2
  simp [setBlock]
theorem Mm.drop {w : World} {b : Nat} {F : MF} (h : Mm w b F) {t : Int} (ht : 0 ≤ t ∧ t < 16) (ty : TypeId) :
    ∃ w', (Builtin.delete_ #[61, 3] ty #[.map (some b), .int .i64 t]).run Try.prog w = .ok (.tuple #[]) w' ∧ Mm w' b (setF F t none) ∧ Kp w w' [b] ∧ w'.heap.size = w.heap.size := by
  obtain ⟨D, ho, hd⟩ := h
  obtain ⟨w', hrun, r1, r2⟩ := World.ownsMap.drop ho keyed3 Try.underlying61 (kt_eq ht) ty
  refine ⟨w', hrun, ⟨_, owns_few r1 (hd.del ht), hd.del ht⟩, Kp.turned r2, ?_⟩
  obtain ⟨_, _, _, _, _, rfl⟩ := r2
  simp [setBlock]
theorem Mm.len {w : World} {b : Nat} {F : MF} (h : Mm w b F) (ty : TypeId) : (Builtin.len_ #[61] ty #[.map (some b)]).run Try.prog w = .ok (.int .i64 (ks.filter fun k => (F k).isSome).length) w := by
  obtain ⟨D, ho, hd⟩ := h
  rw [← hd.cnt]
  exact World.ownsMap.len ho Try.underlying61 ty
end Go.Proofs.Ytllkopekfanfaaa
