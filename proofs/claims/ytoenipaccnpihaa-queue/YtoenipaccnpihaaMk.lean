/- Keys: a thread and a number. -/
import Derived.Maps.RangeWalk
import Derived.Maps.OwnSet
import Derived.DeepKeys4
import Derived.WideKeyEntry
import Derived.Test.YtoenipaccnpihaaOwn
namespace Go.Proofs.Ytoenipaccnpihaa
open Go.RowKit Go.Shelf Go.Lib Go.Sort Go.Maps
attribute [local go_sem] Oper.semAt_some

open Go.ChangeMaps (setBlock)
open Go.WideElems (Fit rd rg)
theorem Kp.turned {w w' : World} {b : Nat} (h : w.mapTurned w' b) : Kp w w' [b] := by
  have h := World.mapTurned.grown h
  exact ⟨h.os, h.tape, h.output, h.size, fun k hk hn => h.block k hk (by simp at hn ⊢; exact hn)⟩
theorem Try.laidOutK : laidOutB Try.prog = true := by kernel_rfl
theorem Try.row78 : (78 : TypeId) < Try.prog.types.size := of_decide_eq_true (by kernel_rfl)
theorem Try.wide78 : (match Try.prog.underlying 78 with | some (.array _ _) | some (.struct _) => true | _ => false) = true := by rw [Try.underlying78]
theorem law78 : WideMaps.KeyLaw Try.prog 78 := deep_law_laid Try.laidOutK (m := 2) (by omega) Try.row78 (by kernel_rfl) Try.wide78
theorem keyed78 : Keyed Try.prog 78 := Keyed.of_law law78
/-- A key. -/
def key (t n : Nat) : Value := .agg #[.int .i64 t, .int .i64 n]
noncomputable def kl (t n : Nat) : Lit := (keyOf Try.prog 78 (key t n)).getD (.bool false)
theorem kl_all : (List.range 16).all (fun t => (List.range 32).all fun n => (keyOf Try.prog 78 (key t n)).isSome) = true := by kernel_rfl
theorem kl_eq {t n : Nat} (ht : t < 16) (hn : n < 32) : keyOf Try.prog 78 (key t n) = some (kl t n) := by
  have h1 := List.all_eq_true.1 kl_all t (List.mem_range.2 ht)
  have h2 := List.all_eq_true.1 h1 n (List.mem_range.2 hn)
  obtain ⟨l, hl⟩ := Option.isSome_iff_exists.1 h2
  unfold kl
  rw [hl]
  rfl
theorem key_inj {t n t' n' : Nat} (h : key t n = key t' n') : t = t' ∧ n = n' := by
  unfold key at h
  simp at h
  omega
theorem kl_inj {t n t' n' : Nat} (ht : t < 16) (hn : n < 32) (ht' : t' < 16) (hn' : n' < 32) (h : kl t n = kl t' n') : t = t' ∧ n = n' :=
  key_inj (keyed78.inj (kl_eq ht hn) (h ▸ kl_eq ht' hn'))
theorem kl_key {t n : Nat} (ht : t < 16) (hn : n < 32) : WideAt.IsKeyLit (kl t n) := keyed78.key (kl_eq ht hn)
theorem kl_ne {t n t' n' : Nat} (ht : t < 16) (hn : n < 32) (ht' : t' < 16) (hn' : n' < 32) (h : ¬ (t' = t ∧ n' = n)) : kl t' n' ≠ kl t n := fun e => h (kl_inj ht' hn' ht hn e)
end Go.Proofs.Ytoenipaccnpihaa
