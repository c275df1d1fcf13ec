/- Calls that are refused by an arena that is there. -/
import Derived.Test.YtgefmnnkpffpcaaGreatDoorPcsJ
import Derived.Deep.RegionHeldLaw
import Derived.Laws.BitsAllLaws
import Derived.WalkMore
namespace Go.Proofs.YtgefmnnkpffpcaaGreatDoor
open Go.RowKit

theorem cell_new0 {w : World} {v : Value} {t : TypeId} : (w.alloc (.cells #[v] t)).cell? ⟨w.heap.size, 0, none⟩ = some v := by
  unfold World.cell?
  rw [heap_alloc_new w (.cells #[v] t (0, 0))]
  rfl
theorem cell_past {w : World} {b i : Nat} {v : Value} {o : Obj} (h : w.cell? ⟨b, i, none⟩ = some v) : (w.alloc o).cell? ⟨b, i, none⟩ = some v :=
  (World.cell?_of_block (a := ⟨b, i, none⟩) (Below.heap_alloc w o b (World.block_lt_of_cell? w _ h))).trans h
theorem cell_new1 {w : World} {v : Value} {t : TypeId} {o1 : Obj} : ((w.alloc o1).alloc (.cells #[v] t)).cell? ⟨w.heap.size + 1, 0, none⟩ = some v := by
  have h := cell_new0 (w := w.alloc o1) (v := v) (t := t)
  rw [show (w.alloc o1).heap.size = w.heap.size + 1 by simp] at h
  exact h
theorem cell_new2 {w : World} {v : Value} {t : TypeId} {o1 o2 : Obj} : (((w.alloc o1).alloc o2).alloc (.cells #[v] t)).cell? ⟨w.heap.size + 2, 0, none⟩ = some v := by
  have h := cell_new0 (w := (w.alloc o1).alloc o2) (v := v) (t := t)
  rw [show ((w.alloc o1).alloc o2).heap.size = w.heap.size + 2 by simp] at h
  exact h

set_option maxRecDepth 100000 in
theorem set_no (w : World) (rb mb n : Nat) (f : Nat → Int) (c o x : Int) (h : Ar w rb mb n f c) (hn : n ≤ 65536) (h4 : o ≤ 9223372036854775807) (hb : hasW n o = false) :
    Calls Tryz.prog 71 #[.pointer (some ⟨rb, 0, none⟩), .int .i64 o, .int .u32 x] w fun e w' => e = .returned (.int .i64 2) ∧ Kp w w' [] := by
  obtain ⟨cap, cur, hr, -⟩ := h
  have hc0 := cell_two0 hr
  have hlt := lt_of_block hr
  have HB := hid hb
  clear hr hb
  go_enter Tryz.func71, Tryz.ntmps71
  go_wp2_with fail
  refine (set_ref _ w.heap.size (w.heap.size + 1) rb mb n cap o hn h4 (cell_past cell_new0) cell_new1 (cell_past (cell_past hc0))).mono ?_
  rintro e w1 ⟨rfl, rfl⟩
  rw [HB.out]
  go_wp2
  go_ret
  exact ⟨rfl, (Kp.alloc _ _ _).trans (Kp.alloc _ _ _)⟩
set_option maxRecDepth 100000 in
theorem get_no (w : World) (rb mb n : Nat) (f : Nat → Int) (c o : Int) (h : Ar w rb mb n f c) (hn : n ≤ 65536) (h4 : o ≤ 9223372036854775807) (hb : hasW n o = false) :
    Calls Tryz.prog 49 #[.pointer (some ⟨rb, 0, none⟩), .int .i64 o] w fun e w' => e = .returned (.tuple #[.int .u32 0, .int .i64 2]) ∧ Kp w w' [] := by
  obtain ⟨cap, cur, hr, -⟩ := h
  have hc0 := cell_two0 hr
  have hlt := lt_of_block hr
  have HB := hid hb
  clear hr hb
  go_enter Tryz.func49, Tryz.ntmps49
  go_wp2_with fail
  refine (get_ref _ w.heap.size (w.heap.size + 1) rb mb n cap o hn h4 (cell_past cell_new0) cell_new1 (cell_past (cell_past hc0))).mono ?_
  rintro e w1 ⟨rfl, rfl⟩
  rw [HB.out]
  go_wp2
  go_ret2
  exact ⟨rfl, (Kp.alloc _ _ _).trans (Kp.alloc _ _ _)⟩
set_option maxRecDepth 100000 in
theorem write_no (w : World) (rb mb n : Nat) (f : Nat → Int) (c o : Int) (bo : Option Addr) (m mc : Nat) (h : Ar w rb mb n f c) (hn : n ≤ 65536) (h4 : o ≤ 9223372036854775807) (hb : hasB n o m = false) :
    Calls Tryz.prog 66 #[.pointer (some ⟨rb, 0, none⟩), .int .i64 o, .slice bo m mc] w fun e w' => e = .returned (.int .i64 2) ∧ Kp w w' [] := by
  obtain ⟨cap, cur, hr, -⟩ := h
  have hc0 := cell_two0 hr
  have hc3 := fun o1 o2 o3 => cell_three (o1 := o1) (o2 := o2) (o3 := o3) hc0
  have hlt := lt_of_block hr
  have HB := hid hb
  clear hr hb
  go_enter Tryz.func66, Tryz.ntmps66
  go_wp2_with fail
  refine (write_ref _ w.heap.size (w.heap.size + 1) (w.heap.size + 2) rb mb n cap o bo m mc hn h4 (cell_past (cell_past cell_new0)) (cell_past cell_new1) cell_new2 (hc3 _ _ _)).mono ?_
  rintro e w1 ⟨rfl, rfl⟩
  rw [HB.out]
  go_wp2
  go_ret
  exact ⟨rfl, ((Kp.alloc _ _ _).trans (Kp.alloc _ _ _)).trans (Kp.alloc _ _ _)⟩
set_option maxRecDepth 100000 in
theorem read_no (w : World) (rb mb n : Nat) (f : Nat → Int) (c o m : Int) (h : Ar w rb mb n f c) (hn : n ≤ 65536) (h4 : o ≤ 9223372036854775807) (hb : hasB n o m = false) :
    Calls Tryz.prog 107 #[.pointer (some ⟨rb, 0, none⟩), .int .i64 o, .int .i64 m] w fun e w' => e = .returned (.tuple #[.slice none 0 0, .int .i64 2]) ∧ Kp w w' [] := by
  obtain ⟨cap, cur, hr, -⟩ := h
  have hc0 := cell_two0 hr
  have hc3 := fun o1 o2 o3 => cell_three (o1 := o1) (o2 := o2) (o3 := o3) hc0
  have hlt := lt_of_block hr
  have HB := hid hb
  clear hr hb
  go_enter Tryz.func107, Tryz.ntmps107
  go_wp2_with fail
  refine (read_ref _ w.heap.size (w.heap.size + 1) (w.heap.size + 2) rb mb n cap o m hn h4 (cell_past (cell_past cell_new0)) (cell_past cell_new1) cell_new2 (hc3 _ _ _)).mono ?_
  rintro e w1 ⟨rfl, rfl⟩
  rw [HB.out]
  go_wp2
  go_ret2
  exact ⟨rfl, ((Kp.alloc _ _ _).trans (Kp.alloc _ _ _)).trans (Kp.alloc _ _ _)⟩
end Go.Proofs.YtgefmnnkpffpcaaGreatDoor

/- copy, as one step of a region that draws: what it leaves alone is said of the world ahead of it. -/
namespace Go.Proofs.YtgefmnnkpffpcaaGreatDoor
open Go.RowKit

theorem Kp.setRow (w : World) (g : Nat) (cs : Array Value) : Kp w (w.setRow g cs) [g] :=
  ⟨rfl, rfl, rfl, by simp [World.setRow], fun k _ hk => setRow_other w g k cs (by simp at hk; omega)⟩

theorem step_copy_at {P : Program} {ops : Array Oper} {o : Oper} {a : Act} {w : World} {K : Act → World → Prop} {Q : Exit → Act → World → Prop} {E : Prop} (hgd : o.guard = none) (d s : Operand) (dT sT : TypeId)
    (ho : o.op = .call { callee := .builtin .copy, args := #[d, s], argTypes := #[dT, sT] }) (D : Nat) (hD : o.dst = some D) (elem : TypeId) (hu : P.underlying dT = some (.slice elem)) (hsz : (P.info? elem).map (·.size) = some 1)
    (dp sp : Option Addr) (dLen dCap sLen sCap : Nat) (hd : a.eval d = .slice dp dLen dCap) (hs : a.eval s = .slice sp sLen sCap)
    (g off : Nat) (cur : Array Value) (t : TypeId) (hg : w.heap[g]? = some (.cells cur t (0, 0))) (cs : List Value) (hn : cs.length = Nat.min sLen dLen)
    (hpos : 0 < cs.length → dp = some ⟨g, off, none⟩ ∧ ∃ ad, sp = some ad ∧ ∀ j v, cs[j]? = some v → w.cell? (ad.add j) = some v)
    (hfit : off + cs.length ≤ cur.size) (h1 : ∀ v ∈ cs, v.oneCell' = true)
    (h : ∀ w', RowKit.Hid (w'.heap[g]? = some (.cells (splice cur.toList off cs).toArray t (0, 0))) → RowKit.Hid (Kp w w' [g]) → w'.heap.size = w.heap.size → K (a.put (some D) (goInt cs.length)) w') :
    if Region.wanted o (yielded ops a.tmps) = true then Oper.wp P o a w K Q else E := by
  have hw : Region.wanted o (yielded ops a.tmps) = true := by simp [Region.wanted, hgd]
  rw [if_pos hw]
  rw [← hD] at h
  by_cases h0 : cs.length = 0
  · obtain rfl : cs = [] := List.eq_nil_of_length_eq_zero h0
    have hrun := run_copy_none (P := P) w dT sT o.type elem dp sp dLen dCap sLen sCap hu hsz (by simpa using hn.symm)
    unfold Oper.wp
    simp [execOp, ho, resolve, invoke, builtin, hd, hs, hrun, Result.andThen]
    exact h w (show _ = _ by simpa [splice] using hg) (Kp.refl w _) rfl
  · obtain ⟨rfl, ad, rfl, hsrc⟩ := hpos (by omega)
    have hrun := run_copy_row (P := P) w dT sT o.type elem g off dLen dCap ad sLen sCap cur t cs hu hsz hg hn hsrc hfit h1
    unfold Oper.wp
    simp [execOp, ho, resolve, invoke, builtin, hd, hs, hrun, Result.andThen]
    exact h _ (show _ = _ by simpa [splice] using setRow_heap w g _ _ t _ hg) (Kp.setRow w g _) (by simp [World.setRow])

/-- The bytes behind a copy: l from place o on. -/
def over (f : Nat → Int) (o : Nat) (l : List Int) : Nat → Int := fun i => if o ≤ i ∧ i < o + l.length then l.getD (i - o) 0 else f i

theorem splice_get {cur : Array Value} {n : Nat} {f : Nat → Int} {o : Nat} {l : List Int} (hcur : ∀ i, i < n → cur[i]? = some (.int .u8 (f i)) ∧ 0 ≤ f i ∧ f i < 256) (hl : Byt l) (hfit : o + l.length ≤ n) (hn : n ≤ cur.size) :
    (splice cur.toList o (ub l)).toArray.size = cur.size ∧ ∀ i, i < n → (splice cur.toList o (ub l)).toArray[i]? = some (.int .u8 (over f o l i)) ∧ 0 ≤ over f o l i ∧ over f o l i < 256 := by
  refine ⟨by simp [splice, ub]; omega, fun i hi => ?_⟩
  unfold over
  by_cases h : o ≤ i ∧ i < o + l.length
  · rw [if_pos h]
    have hj : i - o < l.length := by omega
    have hm := hl (l.getD (i - o) 0) (by rw [List.getD_eq_getElem?_getD, List.getElem?_eq_getElem hj]; simp)
    refine ⟨?_, hm⟩
    have ht : (cur.toList.take o).length = o := by simp; omega
    simp only [splice, List.getElem?_toArray]
    rw [List.getElem?_append_right (by omega), ht, List.getElem?_append_left (by simp [ub]; omega)]
    simp [ub, List.getElem?_eq_getElem hj]
  · rw [if_neg h]
    refine ⟨?_, (hcur i hi).2⟩
    rw [← (hcur i hi).1]
    have ht : (cur.toList.take o).length = o := by simp; omega
    simp only [splice, List.getElem?_toArray]
    by_cases h2 : i < o
    · rw [List.getElem?_append_left (by omega), List.getElem?_take_of_lt h2]
      simp
    · rw [List.getElem?_append_right (by omega), ht, List.getElem?_append_right (by simp [ub]; omega), List.getElem?_drop]
      simp only [ub, List.length_map]
      rw [Array.getElem?_toList]
      congr 1
      omega

theorem Byt.four {a b c d : Int} (ha : 0 ≤ a ∧ a < 256) (hb : 0 ≤ b ∧ b < 256) (hc : 0 ≤ c ∧ c < 256) (hd : 0 ≤ d ∧ d < 256) : Byt [a, b, c, d] := by
  intro x hx
  simp at hx
  rcases hx with rfl | rfl | rfl | rfl <;> assumption
/-- A word's bytes. -/
def bytes4 (x : Int) : List Int := [x % 256, x / 256 % 256, x / 65536 % 256, x / 16777216]
theorem bytes4_byt {x : Int} (h0 : 0 ≤ x) (h1 : x < 4294967296) : Byt (bytes4 x) := Byt.four (by omega) (by omega) (by omega) (by omega)
end Go.Proofs.YtgefmnnkpffpcaaGreatDoor

/- A word's four bytes: split and joined. -/
namespace Go.Proofs.YtgefmnnkpffpcaaGreatDoor
open Go.RowKit

theorem or_add (k : Nat) (m x P : Int) (hP : P = ((2 ^ k : Nat) : Int)) (hm0 : 0 ≤ m) (hm : m < P) (hx0 : 0 ≤ x) (hb : x * P + P ≤ 4294967296) : bits .or .u32 m (x * P) = m + x * P := by
  subst hP
  have hmul : 0 ≤ x * ((2 ^ k : Nat) : Int) := Int.mul_nonneg hx0 (by omega)
  obtain ⟨m', rfl⟩ := Int.eq_ofNat_of_zero_le hm0
  obtain ⟨x', rfl⟩ := Int.eq_ofNat_of_zero_le hx0
  have hm' : m' < 2 ^ k := by exact_mod_cast hm
  have e : (x' : Int) * ((2 ^ k : Nat) : Int) = ((x' * 2 ^ k : Nat) : Int) := by push_cast; rfl
  rw [e] at hb hmul ⊢
  rw [u32_or_nat m' (x' * 2 ^ k) (by omega) (by omega)]
  have h := Nat.shiftLeft_add_eq_or_of_lt hm' x'
  rw [Nat.shiftLeft_eq] at h
  rw [Nat.or_comm, ← h]
  omega

theorem or_zero (x : Int) (h0 : 0 ≤ x) (h : x < 4294967296) : bits .or .u32 0 x = x := by
  obtain ⟨x', rfl⟩ := Int.eq_ofNat_of_zero_le h0
  have := u32_or_nat 0 x' (by omega) (by omega)
  simpa using this

/-- The word that four bytes are. -/
def word (a b c d : Int) : Int := a + b * 256 + c * 65536 + d * 16777216
theorem or8 (m x : Int) (h0 : 0 ≤ m) (h1 : m < 256) (h2 : 0 ≤ x) (h3 : x < 256) : bits .or .u32 m (x * 256) = m + x * 256 := or_add 8 m x 256 (by decide) h0 h1 h2 (by omega)
theorem or16 (m x : Int) (h0 : 0 ≤ m) (h1 : m < 65536) (h2 : 0 ≤ x) (h3 : x < 256) : bits .or .u32 m (x * 65536) = m + x * 65536 := or_add 16 m x 65536 (by decide) h0 h1 h2 (by omega)
theorem or24 (m x : Int) (h0 : 0 ≤ m) (h1 : m < 16777216) (h2 : 0 ≤ x) (h3 : x < 256) : bits .or .u32 m (x * 16777216) = m + x * 16777216 := or_add 24 m x 16777216 (by decide) h0 h1 h2 (by omega)

set_option maxRecDepth 100000 in
set_option maxHeartbeats 2000000 in
theorem split_any (w : World) (x : Int) (h0 : 0 ≤ x) (h1 : x < 4294967296) : Calls Tryz.prog 109 #[.int .u32 x] w fun e w' => e = .returned (.agg #[.int .u8 (x % 256), .int .u8 (x / 256 % 256), .int .u8 (x / 65536 % 256), .int .u8 (x / 16777216)]) ∧ Kp w w' [] := by
  go_enter Tryz.func109, Tryz.ntmps109
  go_wp2
  refine wp_loop_rounds 5 ?_
  rw [rounds_succ]
  go_wp2
  rw [rounds_succ]
  go_wp2
  rw [rounds_succ]
  go_wp2
  rw [rounds_succ]
  go_wp2
  rw [rounds_succ]
  go_wp2
  refine bodyPost_ret (v := .agg #[.int .u8 (x % 256), .int .u8 (x / 256 % 256), .int .u8 (x / 65536 % 256), .int .u8 (x / 16777216)]) (by simp [results, go_sem]) rfl ⟨rfl, ?_⟩
  exact (Kp.alloc _ _ _).trans (Kp.alloc _ _ _)

theorem ret_eq {x y : Int} (h : x = y) : Ending.returned (.int .u32 x) = .returned (.int .u32 y) := by rw [h]
theorem index4 (a b c d : Int) (w : World) : (Instr.index 101 (.agg #[.int .u8 a, .int .u8 b, .int .u8 c, .int .u8 d]) (.int .i64 0)).run Tryz.prog w = .ok (.int .u8 a) w ∧ (Instr.index 101 (.agg #[.int .u8 a, .int .u8 b, .int .u8 c, .int .u8 d]) (.int .i64 1)).run Tryz.prog w = .ok (.int .u8 b) w ∧ (Instr.index 101 (.agg #[.int .u8 a, .int .u8 b, .int .u8 c, .int .u8 d]) (.int .i64 2)).run Tryz.prog w = .ok (.int .u8 c) w ∧ (Instr.index 101 (.agg #[.int .u8 a, .int .u8 b, .int .u8 c, .int .u8 d]) (.int .i64 3)).run Tryz.prog w = .ok (.int .u8 d) w :=
  ⟨by kernel_rfl, by kernel_rfl, by kernel_rfl, by kernel_rfl⟩

set_option linter.unusedSimpArgs false in
set_option maxRecDepth 100000 in
set_option maxHeartbeats 4000000 in
theorem joined_any (w : World) (a b c d : Int) (ha : 0 ≤ a ∧ a < 256) (hb : 0 ≤ b ∧ b < 256) (hc : 0 ≤ c ∧ c < 256) (hd : 0 ≤ d ∧ d < 256) : Calls Tryz.prog 90 #[.agg #[.int .u8 a, .int .u8 b, .int .u8 c, .int .u8 d]] w fun e w' => e = .returned (.int .u32 (word a b c d)) ∧ Kp w w' [] := by
  have hix := index4 a b c d
  go_enter Tryz.func90, Tryz.ntmps90
  go_wp2
  go_step3
  go_wp2
  go_step3
  go_wp2
  refine wp_loop_rounds 5 ?_
  rw [rounds_succ]
  have e0 := or_zero a ha.1 (by omega)
  go_wp2
  all_goals rw [rounds_succ]
  all_goals go_wp2
  all_goals rw [rounds_succ]
  all_goals go_wp2
  all_goals rw [rounds_succ]
  all_goals go_wp2
  all_goals rw [rounds_succ]
  all_goals go_wp2
  all_goals rw [Exit.noGoto_ret]
  all_goals go_ret
  all_goals refine ⟨?_, Kp.alloc _ _ _⟩
  all_goals (try have za : a = 0 := by simpa using ‹(a == 0) = true›)
  all_goals (try have zb : b = 0 := by simpa using ‹(b == 0) = true›)
  all_goals (try have zc : c = 0 := by simpa using ‹(c == 0) = true›)
  all_goals (try have zd : d = 0 := by simpa using ‹(d == 0) = true›)
  all_goals try simp (disch := omega) only [or_zero, or8, or16, or24]
  all_goals exact ret_eq (by unfold word; omega)
end Go.Proofs.YtgefmnnkpffpcaaGreatDoor

/- Set: the word's four bytes stand at the offset, the cost is one more. -/
namespace Go.Proofs.YtgefmnnkpffpcaaGreatDoor
open Go.RowKit

theorem Kp.cell {w w' : World} {rows : List Nat} {b i : Nat} {v : Value} (hk : Kp w w' rows) (h : w.cell? ⟨b, i, none⟩ = some v) (hb : b ∉ rows) : w'.cell? ⟨b, i, none⟩ = some v :=
  (World.cell?_of_block (a := ⟨b, i, none⟩) (hk.block b (World.block_lt_of_cell? w _ h) hb)).trans h
theorem keep3 {w w' : World} {rows : List Nat} {a b c i j k : Nat} {u v x : Value} (h : w.cell? ⟨a, i, none⟩ = some u ∧ w.cell? ⟨b, j, none⟩ = some v ∧ w.cell? ⟨c, k, none⟩ = some x) (hk : Kp w w' rows) (hn : a ∉ rows ∧ b ∉ rows ∧ c ∉ rows) :
    w'.cell? ⟨a, i, none⟩ = some u ∧ w'.cell? ⟨b, j, none⟩ = some v ∧ w'.cell? ⟨c, k, none⟩ = some x :=
  ⟨hk.cell h.1 hn.1, hk.cell h.2.1 hn.2.1, hk.cell h.2.2 hn.2.2⟩

theorem row_cells {w : World} {b o : Nat} {l : List Int} {cur : Array Value} {t : TypeId} (h : w.heap[b]? = some (.cells cur t (0, 0))) (hl : ∀ j, j < l.length → cur[o + j]? = some (.int .u8 (l.getD j 0))) :
    ∀ j v, (ub l)[j]? = some v → w.cell? ((⟨b, o, none⟩ : Addr).add j) = some v := by
  intro j v hv
  have hj : j < l.length := by have := (List.getElem?_eq_some_iff.1 hv).1; simpa [ub] using this
  rw [Addr.add_lit]
  have := hl j hj
  simp [ub, List.getElem?_eq_getElem hj] at hv
  simp [World.cell?, h, this, List.getElem?_eq_getElem hj, hv]

theorem ar_set {w' : World} {rb mb n o cap : Nat} {f : Nat → Int} {l : List Int} {cur : Array Value} {c : Int} (hr : w'.heap[rb]? = some (.cells #[.slice (some ⟨mb, 0, none⟩) n cap, .int .i64 c] 85 (0, 0)))
    (hm : w'.heap[mb]? = some (.cells (splice cur.toList o (ub l)).toArray 5 (0, 0))) (hcur : ∀ i, i < n → cur[i]? = some (.int .u8 (f i)) ∧ 0 ≤ f i ∧ f i < 256) (hl : Byt l) (hfit : o + l.length ≤ n) (hn : n ≤ cap) (hcap : cur.size = cap) (hmax : cap ≤ maxLen) :
    Ar w' rb mb n (over f o l) c := by
  obtain ⟨a, b⟩ := splice_get hcur hl hfit (by omega)
  exact ⟨cap, _, hr, hm, hn, by omega, hmax, b⟩

theorem Tryz.size5 : (Tryz.prog.info? 5).map (·.size) = some 1 := by kernel_rfl

set_option maxRecDepth 100000 in
set_option maxHeartbeats 1000000 in
theorem set_ok (w : World) (rb mb n o : Nat) (f : Nat → Int) (c x : Int) (h : Ar w rb mb n f c) (hn : n ≤ 65536) (hc0 : 0 ≤ c) (hc1 : c < 9223372036854775807) (hx0 : 0 ≤ x) (hx1 : x < 4294967296) (ho : o % 4 = 0) (hfit : o + 4 ≤ n) :
    Calls Tryz.prog 71 #[.pointer (some ⟨rb, 0, none⟩), .int .i64 o, .int .u32 x] w fun e w' => e = .returned (.int .i64 0) ∧ Ar w' rb mb n (over f o (bytes4 x)) (c + 1) ∧ Kp w w' [rb, mb] := by
  have hb : hasW n o = true := decide_eq_true ⟨by omega, by omega, by omega⟩
  have HB := hid hb
  have H := hid h
  obtain ⟨cap, cur, hr, hm, hncap, hcap, hmax, hcur⟩ := h
  have hm0 := cell_two0 hr
  have hm1 := cell_two1 hr
  have hf1 := free_two (i := 1) hr
  have hlt := lt_of_block hr
  have HR := hid hr
  have HM := hid hm
  have HC := hid hcur
  have HO := hid ho
  clear hr hm hb hcur ho
  go_enter Tryz.func71, Tryz.ntmps71
  go_wp2_with fail
  refine (set_ref _ w.heap.size (w.heap.size + 1) rb mb n cap o hn (by omega) (cell_past cell_new0) cell_new1 (cell_past (cell_past hm0))).mono ?_
  rintro e w1 ⟨rfl, rfl⟩
  rw [HB.out]
  go_wp2_with fail
  refine (split_any _ x hx0 hx1).mono ?_
  rintro e w2 ⟨rfl, hk2⟩
  have hne := H.out.ne
  have hltm := H.out.lt.2
  obtain ⟨W1, hW1⟩ : ∃ W1, W1 = (((w.setCell ⟨rb, 1, none⟩ (.int .i64 (c + 1))).alloc (.cells #[.pointer (some ⟨rb, 0, none⟩)] 52)).alloc (.cells #[.int .i64 o] 3)) := ⟨_, rfl⟩
  rw [← hW1] at hk2
  have hs1 : W1.heap.size = w.heap.size + 2 := by rw [hW1]; simp
  have hkW : Kp w W1 [rb] := by rw [hW1]; exact ((Kp.setCell w ⟨rb, 1, none⟩ _).trans (Kp.alloc _ _ _)).trans (Kp.alloc _ _ _)
  have hr1 : W1.heap[rb]? = some (.cells #[.slice (some ⟨mb, 0, none⟩) n cap, .int .i64 (c + 1)] 85 (0, 0)) := by
    rw [hW1, Below.heap_alloc _ _ _ (by simp; omega), Below.heap_alloc _ _ _ (by simp; omega), two_setCell1 HR.out]
  have hb0 : W1.cell? ⟨w.heap.size, 0, none⟩ = some (.pointer (some ⟨rb, 0, none⟩)) := by
    have := cell_past (o := .cells #[.int .i64 o] 3) (cell_new0 (w := w.setCell ⟨rb, 1, none⟩ (.int .i64 (c + 1))) (v := .pointer (some ⟨rb, 0, none⟩)) (t := 52))
    rw [hW1]; simpa using this
  have hb1 : W1.cell? ⟨w.heap.size + 1, 0, none⟩ = some (.int .i64 o) := by
    have := cell_new1 (w := w.setCell ⟨rb, 1, none⟩ (.int .i64 (c + 1))) (v := .int .i64 o) (t := 3) (o1 := .cells #[.pointer (some ⟨rb, 0, none⟩)] 52)
    rw [hW1]; simpa using this
  have q0 := hk2.cell hb0 (by simp)
  have q1 := hk2.cell hb1 (by simp)
  have hr2 : w2.heap[rb]? = _ := (hk2.block rb (by omega) (by simp)).trans hr1
  have q2 := cell_two0 hr2
  have hm2 : w2.heap[mb]? = _ := ((hk2.block mb (by omega) (by simp)).trans (hkW.block mb hltm (by simp; omega))).trans HM.out
  have hs2 := hk2.size
  have HK2 := hid (hkW.past hk2 (by simp))
  have HR2 := hid hr2
  have HM2 := hid hm2
  clear hk2 hb0 hb1 hr2 hm2 hr1 hkW hm0 hm1 hf1
  clear hW1
  go_wp2_with fail
  obtain ⟨W3, hW3⟩ : ∃ W3, W3 = w2.alloc (.cells #[.int .u8 (x % 256), .int .u8 (x / 256 % 256), .int .u8 (x / 65536 % 256), .int .u8 (x / 16777216)] 101) := ⟨_, rfl⟩
  rw [← hW3]
  have hkW3 : Kp w2 W3 [] := by rw [hW3]; exact Kp.alloc _ _ _
  have hst := keep3 (And.intro q0 (And.intro q1 q2)) hkW3 (by simp)
  have ha3 : W3.heap[w2.heap.size]? = some (.cells (ub (bytes4 x)).toArray 101 (0, 0)) := by rw [hW3, heap_alloc_new]; rfl
  have hm3 := hid ((hkW3.block mb (by omega) (by simp)).trans HM2.out)
  have hr3 := hid ((hkW3.block rb (by omega) (by simp)).trans HR2.out)
  have HA3 := hid ha3
  have HK3 := hid (HK2.out.past hkW3 (by simp))
  have hoc : (cap = o) = False := eq_false (by omega)
  clear hW3 q0 q1 q2 hkW3 ha3
  have hsrc := row_cells (l := bytes4 x) (o := 0) (w := W3.drew) HA3.out (fun j hj => by rw [Nat.zero_add]; simp [ub, List.getElem?_eq_getElem hj])
  have HS := hid hsrc
  clear hsrc
  have hl4 : (ub (bytes4 x)).length = Nat.min 4 (n - o) := by simp only [ub, bytes4, List.length_map, List.length_cons, List.length_nil]; exact (Nat.min_eq_left (by omega)).symm
  have hl5 : o + (ub (bytes4 x)).length ≤ cur.size := by simp only [ub, bytes4, List.length_map, List.length_cons, List.length_nil]; omega
  have HL4 := hid hl4
  have HL5 := hid hl5
  clear hl4 hl5
  go_region_held_law (fun w' => w'.cell? ⟨w.heap.size, 0, none⟩ = some (.pointer (some ⟨rb, 0, none⟩)) ∧ w'.cell? ⟨w.heap.size + 1, 0, none⟩ = some (.int .i64 o) ∧ w'.cell? ⟨rb, 0, none⟩ = some (.slice (some ⟨mb, 0, none⟩) n cap))
    (first
      | exact keep3 hst (Kp.drew _ []) (by simp)
      | exact keep3 hst ((Kp.drew _ _).trans hk4.out) (by simp; omega))
    ((refine step_copy_at (by rfl) _ _ 40 40 (by rfl) 31 (by rfl) 5 Tryz.underlying40 Tryz.size5 (some ⟨mb, o, none⟩) (some ⟨w2.heap.size, 0, none⟩) (n - o) (cap - o) 4 4 (by rfl) (by rfl) mb o cur 5 hm3.out (ub (bytes4 x)) HL4.out (fun _ => ⟨rfl, _, rfl, HS.out⟩) HL5.out (ub_one _) ?_; intro w4 hg4 hk4 hs4))
  go_wp2
  go_ret
  have hk : Kp W3 w4 [mb] := (Kp.drew _ _).trans hk4.out
  refine ⟨rfl, ar_set ((hk.block rb (lt_of_block hr3.out) (by simp; omega)).trans hr3.out) hg4.out HC.out (bytes4_byt hx0 hx1) (by simp [bytes4]; omega) hncap hcap hmax, ?_⟩
  exact (HK3.out.mono (by simp)).trans (hk.mono (by simp))
end Go.Proofs.YtgefmnnkpffpcaaGreatDoor
