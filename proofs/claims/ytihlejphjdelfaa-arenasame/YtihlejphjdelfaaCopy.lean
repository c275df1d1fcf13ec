/- copy, as one step of a region that draws: what it leaves alone is said of the world ahead of it. -/
import Derived.Test.YtihlejphjdelfaaRefuse
import Derived.Deep.RegionHeldLaw
namespace Go.Proofs.Ytihlejphjdelfaa
open Go.RowKit

theorem Kp.setRow (w : World) (g : Nat) (cs : Array Value) : Kp w (w.setRow g cs) [g] :=
  ⟨rfl, rfl, rfl, by simp [World.setRow], fun k _ hk => setRow_other w g k cs (by simp at hk; omega)⟩

theorem step_copy_at {P : Program} {ops : Array Oper} {o : Oper} {a : Act} {w : World} {K : Act → World → Prop} {Q : Exit → Act → World → Prop} {E : Prop} (hgd : o.guard = none) (d s : Operand) (dT sT : TypeId)
    (ho : o.op = .call { callee := .builtin .copy, args := #[d, s], argTypes := #[dT, sT] }) (D : Nat) (hD : o.dst = some D) (elem : TypeId) (hu : P.underlying dT = some (.slice elem)) (hsz : (P.info? elem).map (·.size) = some 1)
    (dp sp : Option Addr) (dLen dCap sLen sCap : Nat) (hd : a.eval d = .slice dp dLen dCap) (hs : a.eval s = .slice sp sLen sCap)
    (g off : Nat) (cur : Array Value) (t : TypeId) (hg : w.heap[g]? = some (.cells cur t (0, 0))) (cs : List Value) (hn : cs.length = Nat.min sLen dLen)
    (hpos : 0 < cs.length → dp = some ⟨g, off, none⟩ ∧ ∃ ad, sp = some ad ∧ ∀ j v, cs[j]? = some v → w.cell? (ad.add j) = some v)
    (hfit : off + cs.length ≤ cur.size) (h1 : ∀ v ∈ cs, v.oneCell' = true)
    (h : ∀ w', RowKit.Hid (w'.heap[g]? = some (.cells (splice cur.toList off cs).toArray t (0, 0))) → RowKit.Hid (Kp w w' [g]) → w'.heap.size = w.heap.size → K (a.put (some D) (goInt cs.length)) w') :
    if Region.wanted o (yielded ops a.tmps) = true then Oper.wp P o a w K Q else E := by
  have hw : Region.wanted o (yielded ops a.tmps) = true := by simp [Region.wanted, hgd]
  rw [if_pos hw]
  rw [← hD] at h
  by_cases h0 : cs.length = 0
  · obtain rfl : cs = [] := List.eq_nil_of_length_eq_zero h0
    have hrun := run_copy_none (P := P) w dT sT o.type elem dp sp dLen dCap sLen sCap hu hsz (by simpa using hn.symm)
    unfold Oper.wp
    simp [execOp, ho, resolve, invoke, builtin, hd, hs, hrun, Result.andThen]
    exact h w (show _ = _ by simpa [splice] using hg) (Kp.refl w _) rfl
  · obtain ⟨rfl, ad, rfl, hsrc⟩ := hpos (by omega)
    have hrun := run_copy_row (P := P) w dT sT o.type elem g off dLen dCap ad sLen sCap cur t cs hu hsz hg hn hsrc hfit h1
    unfold Oper.wp
    simp [execOp, ho, resolve, invoke, builtin, hd, hs, hrun, Result.andThen]
    exact h _ (show _ = _ by simpa [splice] using setRow_heap w g _ _ t _ hg) (Kp.setRow w g _) (by simp [World.setRow])

/-- The bytes behind a copy: l from place o on. -/
def over (f : Nat → Int) (o : Nat) (l : List Int) : Nat → Int := fun i => if o ≤ i ∧ i < o + l.length then l.getD (i - o) 0 else f i

theorem splice_get {cur : Array Value} {n : Nat} {f : Nat → Int} {o : Nat} {l : List Int} (hcur : ∀ i, i < n → cur[i]? = some (.int .u8 (f i)) ∧ 0 ≤ f i ∧ f i < 256) (hl : Byt l) (hfit : o + l.length ≤ n) (hn : n ≤ cur.size) :
    (splice cur.toList o (ub l)).toArray.size = cur.size ∧ ∀ i, i < n → (splice cur.toList o (ub l)).toArray[i]? = some (.int .u8 (over f o l i)) ∧ 0 ≤ over f o l i ∧ over f o l i < 256 := by
  refine ⟨by simp [splice, ub]; omega, fun i hi => ?_⟩
  unfold over
  by_cases h : o ≤ i ∧ i < o + l.length
  · rw [if_pos h]
    have hj : i - o < l.length := by omega
    have hm := hl (l.getD (i - o) 0) (by rw [List.getD_eq_getElem?_getD, List.getElem?_eq_getElem hj]; simp)
    refine ⟨?_, hm⟩
    have ht : (cur.toList.take o).length = o := by simp; omega
    simp only [splice, List.getElem?_toArray]
    rw [List.getElem?_append_right (by omega), ht, List.getElem?_append_left (by simp [ub]; omega)]
    simp [ub, List.getElem?_eq_getElem hj]
  · rw [if_neg h]
    refine ⟨?_, (hcur i hi).2⟩
    rw [← (hcur i hi).1]
    have ht : (cur.toList.take o).length = o := by simp; omega
    simp only [splice, List.getElem?_toArray]
    by_cases h2 : i < o
    · rw [List.getElem?_append_left (by omega), List.getElem?_take_of_lt h2]
      simp
    · rw [List.getElem?_append_right (by omega), ht, List.getElem?_append_right (by simp [ub]; omega), List.getElem?_drop]
      simp only [ub, List.length_map]
      rw [Array.getElem?_toList]
      congr 1
      omega

theorem Byt.four {a b c d : Int} (ha : 0 ≤ a ∧ a < 256) (hb : 0 ≤ b ∧ b < 256) (hc : 0 ≤ c ∧ c < 256) (hd : 0 ≤ d ∧ d < 256) : Byt [a, b, c, d] := by
  intro x hx
  simp at hx
  rcases hx with rfl | rfl | rfl | rfl <;> assumption
/-- A word's bytes. -/
def bytes4 (x : Int) : List Int := [x % 256, x / 256 % 256, x / 65536 % 256, x / 16777216]
theorem bytes4_byt {x : Int} (h0 : 0 ≤ x) (h1 : x < 4294967296) : Byt (bytes4 x) := Byt.four (by omega) (by omega) (by omega) (by omega)
end Go.Proofs.Ytihlejphjdelfaa
