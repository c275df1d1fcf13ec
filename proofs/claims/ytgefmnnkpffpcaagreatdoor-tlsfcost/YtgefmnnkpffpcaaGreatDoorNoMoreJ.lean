/- Calls that are refused by an arena that is there. -/
import Derived.Test.YtgefmnnkpffpcaaGreatDoorHasJ
import Derived.Deep.RegionHeldLaw
import Derived.Test.YtgefmnnkpffpcaaGreatDoorPcsJ
import Derived.Laws.BitsAllLaws
import Derived.WalkMore
namespace Go.Proofs.YtgefmnnkpffpcaaGreatDoor
open Go.RowKit

theorem cell_new0 {w : World} {v : Value} {t : TypeId} : (w.alloc (.cells #[v] t)).cell? ⟨w.heap.size, 0, none⟩ = some v := by
  unfold World.cell?
  rw [heap_alloc_new w (.cells #[v] t (0, 0))]
  rfl
theorem cell_past {w : World} {b i : Nat} {v : Value} {o : Obj} (h : w.cell? ⟨b, i, none⟩ = some v) : (w.alloc o).cell? ⟨b, i, none⟩ = some v :=
  (World.cell?_of_block (a := ⟨b, i, none⟩) (Below.heap_alloc w o b (World.block_lt_of_cell? w _ h))).trans h
theorem cell_new1 {w : World} {v : Value} {t : TypeId} {o1 : Obj} : ((w.alloc o1).alloc (.cells #[v] t)).cell? ⟨w.heap.size + 1, 0, none⟩ = some v := by
  have h := cell_new0 (w := w.alloc o1) (v := v) (t := t)
  rw [show (w.alloc o1).heap.size = w.heap.size + 1 by simp] at h
  exact h
theorem cell_new2 {w : World} {v : Value} {t : TypeId} {o1 o2 : Obj} : (((w.alloc o1).alloc o2).alloc (.cells #[v] t)).cell? ⟨w.heap.size + 2, 0, none⟩ = some v := by
  have h := cell_new0 (w := (w.alloc o1).alloc o2) (v := v) (t := t)
  rw [show ((w.alloc o1).alloc o2).heap.size = w.heap.size + 2 by simp] at h
  exact h

set_option maxRecDepth 100000 in
theorem set_no (w : World) (rb mb n : Nat) (f : Nat → Int) (c o x : Int) (h : Ar w rb mb n f c) (hn : n ≤ 65536) (h4 : o ≤ 9223372036854775807) (hb : hasW n o = false) :
    Calls Tryz.prog 71 #[.pointer (some ⟨rb, 0, none⟩), .int .i64 o, .int .u32 x] w fun e w' => e = .returned (.int .i64 2) ∧ Kp w w' [] := by
  obtain ⟨cap, cur, hr, -⟩ := h
  have hc0 := cell_two0 hr
  have hlt := lt_of_block hr
  have HB := hid hb
  clear hr hb
  go_enter Tryz.func71, Tryz.ntmps71
  go_wp2_with fail
  refine (set_ref _ w.heap.size (w.heap.size + 1) rb mb n cap o hn h4 (cell_past cell_new0) cell_new1 (cell_past (cell_past hc0))).mono ?_
  rintro e w1 ⟨rfl, rfl⟩
  rw [HB.out]
  go_wp2
  go_ret
  exact ⟨rfl, (Kp.alloc _ _ _).trans (Kp.alloc _ _ _)⟩
set_option maxRecDepth 100000 in
theorem get_no (w : World) (rb mb n : Nat) (f : Nat → Int) (c o : Int) (h : Ar w rb mb n f c) (hn : n ≤ 65536) (h4 : o ≤ 9223372036854775807) (hb : hasW n o = false) :
    Calls Tryz.prog 49 #[.pointer (some ⟨rb, 0, none⟩), .int .i64 o] w fun e w' => e = .returned (.tuple #[.int .u32 0, .int .i64 2]) ∧ Kp w w' [] := by
  obtain ⟨cap, cur, hr, -⟩ := h
  have hc0 := cell_two0 hr
  have hlt := lt_of_block hr
  have HB := hid hb
  clear hr hb
  go_enter Tryz.func49, Tryz.ntmps49
  go_wp2_with fail
  refine (get_ref _ w.heap.size (w.heap.size + 1) rb mb n cap o hn h4 (cell_past cell_new0) cell_new1 (cell_past (cell_past hc0))).mono ?_
  rintro e w1 ⟨rfl, rfl⟩
  rw [HB.out]
  go_wp2
  go_ret2
  exact ⟨rfl, (Kp.alloc _ _ _).trans (Kp.alloc _ _ _)⟩
set_option maxRecDepth 100000 in
theorem write_no (w : World) (rb mb n : Nat) (f : Nat → Int) (c o : Int) (bo : Option Addr) (m mc : Nat) (h : Ar w rb mb n f c) (hn : n ≤ 65536) (h4 : o ≤ 9223372036854775807) (hb : hasB n o m = false) :
    Calls Tryz.prog 66 #[.pointer (some ⟨rb, 0, none⟩), .int .i64 o, .slice bo m mc] w fun e w' => e = .returned (.int .i64 2) ∧ Kp w w' [] := by
  obtain ⟨cap, cur, hr, -⟩ := h
  have hc0 := cell_two0 hr
  have hc3 := fun o1 o2 o3 => cell_three (o1 := o1) (o2 := o2) (o3 := o3) hc0
  have hlt := lt_of_block hr
  have HB := hid hb
  clear hr hb
  go_enter Tryz.func66, Tryz.ntmps66
  go_wp2_with fail
  refine (write_ref _ w.heap.size (w.heap.size + 1) (w.heap.size + 2) rb mb n cap o bo m mc hn h4 (cell_past (cell_past cell_new0)) (cell_past cell_new1) cell_new2 (hc3 _ _ _)).mono ?_
  rintro e w1 ⟨rfl, rfl⟩
  rw [HB.out]
  go_wp2
  go_ret
  exact ⟨rfl, ((Kp.alloc _ _ _).trans (Kp.alloc _ _ _)).trans (Kp.alloc _ _ _)⟩
set_option maxRecDepth 100000 in
theorem read_no (w : World) (rb mb n : Nat) (f : Nat → Int) (c o m : Int) (h : Ar w rb mb n f c) (hn : n ≤ 65536) (h4 : o ≤ 9223372036854775807) (hb : hasB n o m = false) :
    Calls Tryz.prog 107 #[.pointer (some ⟨rb, 0, none⟩), .int .i64 o, .int .i64 m] w fun e w' => e = .returned (.tuple #[.slice none 0 0, .int .i64 2]) ∧ Kp w w' [] := by
  obtain ⟨cap, cur, hr, -⟩ := h
  have hc0 := cell_two0 hr
  have hc3 := fun o1 o2 o3 => cell_three (o1 := o1) (o2 := o2) (o3 := o3) hc0
  have hlt := lt_of_block hr
  have HB := hid hb
  clear hr hb
  go_enter Tryz.func107, Tryz.ntmps107
  go_wp2_with fail
  refine (read_ref _ w.heap.size (w.heap.size + 1) (w.heap.size + 2) rb mb n cap o m hn h4 (cell_past (cell_past cell_new0)) (cell_past cell_new1) cell_new2 (hc3 _ _ _)).mono ?_
  rintro e w1 ⟨rfl, rfl⟩
  rw [HB.out]
  go_wp2
  go_ret2
  exact ⟨rfl, ((Kp.alloc _ _ _).trans (Kp.alloc _ _ _)).trans (Kp.alloc _ _ _)⟩
end Go.Proofs.YtgefmnnkpffpcaaGreatDoor

/- copy, as one step of a region that draws: what it leaves alone is said of the world ahead of it. -/
namespace Go.Proofs.YtgefmnnkpffpcaaGreatDoor
open Go.RowKit

theorem Kp.setRow (w : World) (g : Nat) (cs : Array Value) : Kp w (w.setRow g cs) [g] :=
  ⟨rfl, rfl, rfl, by simp [World.setRow], fun k _ hk => setRow_other w g k cs (by simp at hk; omega)⟩

theorem step_copy_at {P : Program} {ops : Array Oper} {o : Oper} {a : Act} {w : World} {K : Act → World → Prop} {Q : Exit → Act → World → Prop} {E : Prop} (hgd : o.guard = none) (d s : Operand) (dT sT : TypeId)
    (ho : o.op = .call { callee := .builtin .copy, args := #[d, s], argTypes := #[dT, sT] }) (D : Nat) (hD : o.dst = some D) (elem : TypeId) (hu : P.underlying dT = some (.slice elem)) (hsz : (P.info? elem).map (·.size) = some 1)
    (dp sp : Option Addr) (dLen dCap sLen sCap : Nat) (hd : a.eval d = .slice dp dLen dCap) (hs : a.eval s = .slice sp sLen sCap)
    (g off : Nat) (cur : Array Value) (t : TypeId) (hg : w.heap[g]? = some (.cells cur t (0, 0))) (cs : List Value) (hn : cs.length = Nat.min sLen dLen)
    (hpos : 0 < cs.length → dp = some ⟨g, off, none⟩ ∧ ∃ ad, sp = some ad ∧ ∀ j v, cs[j]? = some v → w.cell? (ad.add j) = some v)
    (hfit : off + cs.length ≤ cur.size) (h1 : ∀ v ∈ cs, v.oneCell' = true)
    (h : ∀ w', RowKit.Hid (w'.heap[g]? = some (.cells (splice cur.toList off cs).toArray t (0, 0))) → RowKit.Hid (Kp w w' [g]) → w'.heap.size = w.heap.size → K (a.put (some D) (goInt cs.length)) w') :
    if Region.wanted o (yielded ops a.tmps) = true then Oper.wp P o a w K Q else E := by
  have hw : Region.wanted o (yielded ops a.tmps) = true := by simp [Region.wanted, hgd]
  rw [if_pos hw]
  rw [← hD] at h
  by_cases h0 : cs.length = 0
  · obtain rfl : cs = [] := List.eq_nil_of_length_eq_zero h0
    have hrun := run_copy_none (P := P) w dT sT o.type elem dp sp dLen dCap sLen sCap hu hsz (by simpa using hn.symm)
    unfold Oper.wp
    simp [execOp, ho, resolve, invoke, builtin, hd, hs, hrun, Result.andThen]
    exact h w (show _ = _ by simpa [splice] using hg) (Kp.refl w _) rfl
  · obtain ⟨rfl, ad, rfl, hsrc⟩ := hpos (by omega)
    have hrun := run_copy_row (P := P) w dT sT o.type elem g off dLen dCap ad sLen sCap cur t cs hu hsz hg hn hsrc hfit h1
    unfold Oper.wp
    simp [execOp, ho, resolve, invoke, builtin, hd, hs, hrun, Result.andThen]
    exact h _ (show _ = _ by simpa [splice] using setRow_heap w g _ _ t _ hg) (Kp.setRow w g _) (by simp [World.setRow])

/-- The bytes behind a copy: l from place o on. -/
def over (f : Nat → Int) (o : Nat) (l : List Int) : Nat → Int := fun i => if o ≤ i ∧ i < o + l.length then l.getD (i - o) 0 else f i

theorem splice_get {cur : Array Value} {n : Nat} {f : Nat → Int} {o : Nat} {l : List Int} (hcur : ∀ i, i < n → cur[i]? = some (.int .u8 (f i)) ∧ 0 ≤ f i ∧ f i < 256) (hl : Byt l) (hfit : o + l.length ≤ n) (hn : n ≤ cur.size) :
    (splice cur.toList o (ub l)).toArray.size = cur.size ∧ ∀ i, i < n → (splice cur.toList o (ub l)).toArray[i]? = some (.int .u8 (over f o l i)) ∧ 0 ≤ over f o l i ∧ over f o l i < 256 := by
  refine ⟨by simp [splice, ub]; omega, fun i hi => ?_⟩
  unfold over
  by_cases h : o ≤ i ∧ i < o + l.length
  · rw [if_pos h]
    have hj : i - o < l.length := by omega
    have hm := hl (l.getD (i - o) 0) (by rw [List.getD_eq_getElem?_getD, List.getElem?_eq_getElem hj]; simp)
    refine ⟨?_, hm⟩
    have ht : (cur.toList.take o).length = o := by simp; omega
    simp only [splice, List.getElem?_toArray]
    rw [List.getElem?_append_right (by omega), ht, List.getElem?_append_left (by simp [ub]; omega)]
    simp [ub, List.getElem?_eq_getElem hj]
  · rw [if_neg h]
    refine ⟨?_, (hcur i hi).2⟩
    rw [← (hcur i hi).1]
    have ht : (cur.toList.take o).length = o := by simp; omega
    simp only [splice, List.getElem?_toArray]
    by_cases h2 : i < o
    · rw [List.getElem?_append_left (by omega), List.getElem?_take_of_lt h2]
      simp
    · rw [List.getElem?_append_right (by omega), ht, List.getElem?_append_right (by simp [ub]; omega), List.getElem?_drop]
      simp only [ub, List.length_map]
      rw [Array.getElem?_toList]
      congr 1
      omega

theorem Byt.four {a b c d : Int} (ha : 0 ≤ a ∧ a < 256) (hb : 0 ≤ b ∧ b < 256) (hc : 0 ≤ c ∧ c < 256) (hd : 0 ≤ d ∧ d < 256) : Byt [a, b, c, d] := by
  intro x hx
  simp at hx
  rcases hx with rfl | rfl | rfl | rfl <;> assumption
/-- A word's bytes. -/
def bytes4 (x : Int) : List Int := [x % 256, x / 256 % 256, x / 65536 % 256, x / 16777216]
theorem bytes4_byt {x : Int} (h0 : 0 ≤ x) (h1 : x < 4294967296) : Byt (bytes4 x) := Byt.four (by omega) (by omega) (by omega) (by omega)
end Go.Proofs.YtgefmnnkpffpcaaGreatDoor

/- A word's four bytes: split and joined. -/
namespace Go.Proofs.YtgefmnnkpffpcaaGreatDoor
open Go.RowKit

theorem or_add (k : Nat) (m x P : Int) (hP : P = ((2 ^ k : Nat) : Int)) (hm0 : 0 ≤ m) (hm : m < P) (hx0 : 0 ≤ x) (hb : x * P + P ≤ 4294967296) : bits .or .u32 m (x * P) = m + x * P := by
  subst hP
  have hmul : 0 ≤ x * ((2 ^ k : Nat) : Int) := Int.mul_nonneg hx0 (by omega)
  obtain ⟨m', rfl⟩ := Int.eq_ofNat_of_zero_le hm0
  obtain ⟨x', rfl⟩ := Int.eq_ofNat_of_zero_le hx0
  have hm' : m' < 2 ^ k := by exact_mod_cast hm
  have e : (x' : Int) * ((2 ^ k : Nat) : Int) = ((x' * 2 ^ k : Nat) : Int) := by push_cast; rfl
  rw [e] at hb hmul ⊢
  rw [u32_or_nat m' (x' * 2 ^ k) (by omega) (by omega)]
  have h := Nat.shiftLeft_add_eq_or_of_lt hm' x'
  rw [Nat.shiftLeft_eq] at h
  rw [Nat.or_comm, ← h]
  omega

theorem or_zero (x : Int) (h0 : 0 ≤ x) (h : x < 4294967296) : bits .or .u32 0 x = x := by
  obtain ⟨x', rfl⟩ := Int.eq_ofNat_of_zero_le h0
  have := u32_or_nat 0 x' (by omega) (by omega)
  simpa using this

/-- The word that four bytes are. -/
def word (a b c d : Int) : Int := a + b * 256 + c * 65536 + d * 16777216
theorem or8 (m x : Int) (h0 : 0 ≤ m) (h1 : m < 256) (h2 : 0 ≤ x) (h3 : x < 256) : bits .or .u32 m (x * 256) = m + x * 256 := or_add 8 m x 256 (by decide) h0 h1 h2 (by omega)
theorem or16 (m x : Int) (h0 : 0 ≤ m) (h1 : m < 65536) (h2 : 0 ≤ x) (h3 : x < 256) : bits .or .u32 m (x * 65536) = m + x * 65536 := or_add 16 m x 65536 (by decide) h0 h1 h2 (by omega)
theorem or24 (m x : Int) (h0 : 0 ≤ m) (h1 : m < 16777216) (h2 : 0 ≤ x) (h3 : x < 256) : bits .or .u32 m (x * 16777216) = m + x * 16777216 := or_add 24 m x 16777216 (by decide) h0 h1 h2 (by omega)

set_option maxRecDepth 100000 in
set_option maxHeartbeats 2000000 in
theorem split_any (w : World) (x : Int) (h0 : 0 ≤ x) (h1 : x < 4294967296) : Calls Tryz.prog 109 #[.int .u32 x] w fun e w' => e = .returned (.agg #[.int .u8 (x % 256), .int .u8 (x / 256 % 256), .int .u8 (x / 65536 % 256), .int .u8 (x / 16777216)]) ∧ Kp w w' [] := by
  go_enter Tryz.func109, Tryz.ntmps109
  go_wp2
  refine wp_loop_rounds 5 ?_
  rw [rounds_succ]
  go_wp2
  rw [rounds_succ]
  go_wp2
  rw [rounds_succ]
  go_wp2
  rw [rounds_succ]
  go_wp2
  rw [rounds_succ]
  go_wp2
  refine bodyPost_ret (v := .agg #[.int .u8 (x % 256), .int .u8 (x / 256 % 256), .int .u8 (x / 65536 % 256), .int .u8 (x / 16777216)]) (by simp [results, go_sem]) rfl ⟨rfl, ?_⟩
  exact (Kp.alloc _ _ _).trans (Kp.alloc _ _ _)

theorem ret_eq {x y : Int} (h : x = y) : Ending.returned (.int .u32 x) = .returned (.int .u32 y) := by rw [h]
theorem index4 (a b c d : Int) (w : World) : (Instr.index 101 (.agg #[.int .u8 a, .int .u8 b, .int .u8 c, .int .u8 d]) (.int .i64 0)).run Tryz.prog w = .ok (.int .u8 a) w ∧ (Instr.index 101 (.agg #[.int .u8 a, .int .u8 b, .int .u8 c, .int .u8 d]) (.int .i64 1)).run Tryz.prog w = .ok (.int .u8 b) w ∧ (Instr.index 101 (.agg #[.int .u8 a, .int .u8 b, .int .u8 c, .int .u8 d]) (.int .i64 2)).run Tryz.prog w = .ok (.int .u8 c) w ∧ (Instr.index 101 (.agg #[.int .u8 a, .int .u8 b, .int .u8 c, .int .u8 d]) (.int .i64 3)).run Tryz.prog w = .ok (.int .u8 d) w :=
  ⟨by kernel_rfl, by kernel_rfl, by kernel_rfl, by kernel_rfl⟩

set_option linter.unusedSimpArgs false in
set_option maxRecDepth 100000 in
set_option maxHeartbeats 4000000 in
theorem joined_any (w : World) (a b c d : Int) (ha : 0 ≤ a ∧ a < 256) (hb : 0 ≤ b ∧ b < 256) (hc : 0 ≤ c ∧ c < 256) (hd : 0 ≤ d ∧ d < 256) : Calls Tryz.prog 90 #[.agg #[.int .u8 a, .int .u8 b, .int .u8 c, .int .u8 d]] w fun e w' => e = .returned (.int .u32 (word a b c d)) ∧ Kp w w' [] := by
  have hix := index4 a b c d
  go_enter Tryz.func90, Tryz.ntmps90
  go_wp2
  go_step3
  go_wp2
  go_step3
  go_wp2
  refine wp_loop_rounds 5 ?_
  rw [rounds_succ]
  have e0 := or_zero a ha.1 (by omega)
  go_wp2
  all_goals rw [rounds_succ]
  all_goals go_wp2
  all_goals rw [rounds_succ]
  all_goals go_wp2
  all_goals rw [rounds_succ]
  all_goals go_wp2
  all_goals rw [rounds_succ]
  all_goals go_wp2
  all_goals rw [Exit.noGoto_ret]
  all_goals go_ret
  all_goals refine ⟨?_, Kp.alloc _ _ _⟩
  all_goals (try have za : a = 0 := by simpa using ‹(a == 0) = true›)
  all_goals (try have zb : b = 0 := by simpa using ‹(b == 0) = true›)
  all_goals (try have zc : c = 0 := by simpa using ‹(c == 0) = true›)
  all_goals (try have zd : d = 0 := by simpa using ‹(d == 0) = true›)
  all_goals try simp (disch := omega) only [or_zero, or8, or16, or24]
  all_goals exact ret_eq (by unfold word; omega)
end Go.Proofs.YtgefmnnkpffpcaaGreatDoor
