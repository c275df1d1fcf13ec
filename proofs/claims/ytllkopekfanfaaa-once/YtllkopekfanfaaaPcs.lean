/- Pieces as a plain list: what a map of ints reads as. No Go is walked here. -/
import Derived.Maps.OwnSet
import Derived.Lib.SlKeysI
import Derived.Maps.Ext
namespace Go.Proofs.Ytllkopekfanfaaa
open Go.RowKit Go.Maps

/-- Offsets, rising, each with its block's size. -/
abbrev Pcs := List (Int × Int)
def dat (P : Pcs) : DataW Unit := .map (P.map fun p => (.int .i64 p.1, .lit (.int .i64 p.2)))
def insP (x : Int × Int) : Pcs → Pcs
  | [] => [x]
  | y :: r => if x.1 < y.1 then x :: y :: r else y :: insP x r
def delP (P : Pcs) (k : Int) : Pcs := P.filter fun p => !(p.1 == k)
def putP (P : Pcs) (k v : Int) : Pcs := insP (k, v) (delP P k)
def getP (P : Pcs) (k : Int) : Int := ((P.find? fun p => p.1 == k).map (·.2)).getD 0
def hasP (P : Pcs) (k : Int) : Bool := P.any fun p => p.1 == k

theorem same_int (a b : Int) : (Lit.int .i64 a).sameKey (.int .i64 b) = (a == b) := by
  by_cases h : a = b <;> simp [Lit.sameKey, h]
theorem dat_ins (x : Int × Int) : ∀ P : Pcs, DataW.insert ((.int .i64 x.1, .lit (.int .i64 x.2)) : Lit × DataW Unit) (P.map fun p => (.int .i64 p.1, .lit (.int .i64 p.2))) = (insP x P).map fun p => (.int .i64 p.1, .lit (.int .i64 p.2))
  | [] => rfl
  | y :: r => by
    by_cases h : x.1 < y.1
    · simp [DataW.insert, Lit.before, insP, h]
    · simp [DataW.insert, Lit.before, insP, h]
      exact dat_ins x r
theorem dat_filter (P : Pcs) (k : Int) : (P.map fun p => ((.int .i64 p.1, .lit (.int .i64 p.2)) : Lit × DataW Unit)).filter (fun p => !p.1.sameKey (.int .i64 k)) = (delP P k).map fun p => (.int .i64 p.1, .lit (.int .i64 p.2)) := by
  unfold delP
  rw [List.filter_map]
  congr 1
  apply List.filter_congr
  intro p _
  simp [same_int]
theorem dat_del (P : Pcs) (k : Int) : (dat P).del (.int .i64 k) = dat (delP P k) := by
  simp only [dat, DataW.del, dat_filter]
theorem dat_put (P : Pcs) (k v : Int) : (dat P).put (.int .i64 k) (.lit (.int .i64 v)) = dat (putP P k v) := by
  simp only [dat, DataW.put, dat_filter, putP]
  rw [dat_ins (k, v)]
theorem dat_has (P : Pcs) (k : Int) : Maps.has (dat P) (.int .i64 k) = hasP P k := by
  simp only [dat, has_eq, hasP, List.any_map]
  congr 1
  funext p
  simp [same_int]
theorem dat_at (P : Pcs) (k : Int) : (dat P).atKey (.int .i64 k) (.lit (.int .i64 0)) = .lit (.int .i64 (getP P k)) := by
  simp only [dat, DataW.atKey, getP, List.find?_map]
  have : ((fun p : Lit × DataW Unit => p.1.sameKey (.int .i64 k)) ∘ fun p : Int × Int => (.int .i64 p.1, .lit (.int .i64 p.2))) = fun p => p.1 == k := by
    funext p; simp [same_int]
  rw [this]
  cases P.find? fun p => p.1 == k <;> rfl
theorem dat_size (P : Pcs) : Maps.size (dat P) = P.length := by simp [dat, size_eq]
theorem dat_keys (P : Pcs) : intKeys (dat P) = P.map (·.1) := by simp [dat, intKeys, intOf, Function.comp_def]
theorem dat_nil : (dat [] : DataW Unit) = .map [] := rfl

/-- Keys rise. -/
def Rises (P : Pcs) : Prop := P.Pairwise fun p q => p.1 < q.1

theorem Rises.sorted {P : Pcs} (h : Rises P) : (P.map (·.1)).mergeSort leI = P.map (·.1) := by
  refine List.mergeSort_of_pairwise (List.pairwise_map.2 (h.imp fun {p q} hpq => ?_))
  simp only [leI, decide_eq_true_eq]; omega
theorem rises_del {P : Pcs} (h : Rises P) (k : Int) : Rises (delP P k) := h.filter _
theorem mem_ins {x p : Int × Int} : ∀ {P : Pcs}, p ∈ insP x P ↔ p = x ∨ p ∈ P
  | [] => by simp [insP]
  | y :: r => by
    by_cases h : x.1 < y.1
    · simp [insP, h]
    · simp only [insP, h, if_false, List.mem_cons, mem_ins (P := r)]
      constructor
      · rintro (h | h | h) <;> simp [h]
      · rintro (h | h | h) <;> simp [h]
theorem rises_ins {x : Int × Int} : ∀ {P : Pcs}, Rises P → (∀ p ∈ P, p.1 ≠ x.1) → Rises (insP x P)
  | [], _, _ => by simp [insP, Rises]
  | y :: r, h, hn => by
    have h' := List.pairwise_cons.1 h
    by_cases hx : x.1 < y.1
    · simp only [insP, hx, if_true]
      refine List.pairwise_cons.2 ⟨fun p hp => ?_, h⟩
      rcases List.mem_cons.1 hp with rfl | hp
      · exact hx
      · have := h'.1 p hp; omega
    · simp only [insP, hx, if_false]
      refine List.pairwise_cons.2 ⟨fun p hp => ?_, rises_ins h'.2 fun p hp => hn p (by simp [hp])⟩
      rcases mem_ins.1 hp with rfl | hp
      · have := hn y (by simp); omega
      · exact h'.1 p hp
theorem mem_del {P : Pcs} {k : Int} {p : Int × Int} : p ∈ delP P k ↔ p ∈ P ∧ p.1 ≠ k := by simp [delP]
theorem rises_put {P : Pcs} (h : Rises P) (k v : Int) : Rises (putP P k v) := rises_ins (rises_del h k) fun _ hp => (mem_del.1 hp).2

/-- What ownsMap says of keys: they rise. -/
theorem rises_of_canon {P : Pcs} (h : Canon (dat P)) : Rises P := by
  obtain ⟨es, he, hp, -⟩ := h
  simp only [dat, DataW.map.injEq] at he
  subst he
  exact (List.pairwise_map.1 hp).imp fun {p q} hpq => by simpa [Lit.before] using hpq
end Go.Proofs.Ytllkopekfanfaaa
