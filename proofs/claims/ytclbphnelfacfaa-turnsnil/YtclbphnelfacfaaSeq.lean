/- rings, sequence: a sequence's threads, one by one. -/
import Derived.Test.YtclbphnelfacfaaRange
namespace Go.Proofs.Ytclbphnelfacfaa
open Go.RowKit Go.Shelf
attribute [local go_sem] Oper.semAt_some

/-- From node a over the threads l, and out. -/
def Run (f : Nat → Nat) : Nat → List Nat → Prop
  | a, [] => f a < 32
  | a, x :: l => f a = 32 + x ∧ Run f (32 + x) l
theorem Chain.run {f : Nat → Nat} {a b : Nat} {l : List Nat} (h : Chain f a l b) (hb : b < 32) : Run f a l := by
  induction l generalizing a with
  | nil => have : f a = b := h; show f a < 32; omega
  | cons x l ih => exact ⟨h.1, ih h.2⟩

/-! ### The links as a value -/
def arr (c : Nat → Nat) : Array Value := (icl c 48 0).toArray
theorem info54 : (Try.prog.info? 77).map (fun i => (i.zero, i.size)) = some (some (.agg (arr cz)), 48) := by kernel_rfl
theorem arr_size (c : Nat → Nat) : (arr c).size = 48 := by simp [arr, icl_length]
theorem size54 (c : Nat → Nat) : (Try.prog.info? 77).map (·.size) = some (arr c).size := by
  rw [(zero_of_info info54).2, arr_size]
theorem size54' (c : Nat → Nat) : (Try.prog.info? 77).map (·.size) = some (icl c 48 0).length := by
  rw [(zero_of_info info54).2, icl_length]
theorem one54 (c : Nat → Nat) : (arr c).all (·.oneCell') = true := all_oneCell_toArray (icl_one c 48 0)
theorem arr_cell {w : World} {x : Nat} {c : Nat → Nat} {t : TypeId} {f : Nat × Nat} (h : w.heap[x]? = some (.cells (arr c) t f)) (i : Nat) (hi : i < 48) : w.cell? ⟨x, i, none⟩ = some (.int .i64 (c i : Nat)) := by
  rw [cell_of_row w x i _ _ _ h]
  have := icl_at c 48 0 i hi
  rw [Nat.zero_add] at this
  simpa [arr] using this

section
variable {P : Program}
theorem wpList_store_new {ops : Array Oper} {rest : List Oper} {op : Oper} {a : Act} {w : World} {Q : Exit → Act → World → Prop} (hgd : op.guard = none) (ty : TypeId) (x y : Operand) (ho : op.op = .store ty x y)
    (t : TypeId) (c c' : Array Value) (hx : a.eval x = .pointer (some ⟨w.heap.size, 0, none⟩)) (hy : a.eval y = .agg c')
    (hi : (P.info? ty).map (·.size) = some c'.size) (hs : c.size = c'.size) (h1 : c'.all (·.oneCell') = true)
    (h : wpList P ops Q rest (a.put op.dst undef) (w.alloc (.cells c' t))) : wpList P ops Q (op :: rest) a (w.alloc (.cells c t)) :=
  wpList_plain hgd fun _ hK => wp_store_row ty x y ho w.heap.size c' hx hy t c (heap_alloc_last w _) hi hs h1 (by rw [World.setRow_alloc_new]; exact hK _ _ h)
end

set_option maxRecDepth 100000 in
theorem rings_ok (w : World) (rb : Nat) (c : Nat → Nat) (u s : Nat) (h : Rr w rb c u s) (h1 : c 32 ≠ 0) : Calls Try.prog 69 #[.pointer (some ⟨rb, 0, none⟩)] w fun e w' => e = .returned (.agg (arr c)) ∧ w' = w.alloc (.cells (arr c) 77) := by
  have hA := keep_box h (.cells (arr cz) 77)
  have cz' := zero_ok _ rb c u s hA h1
  have HR := hid hA.range
  have z54 := (zero_of_info info54).1
  clear h hA
  go_enter Try.func69, Try.ntmps69
  go_wp2_with (first | (go_at_call 71; refine cz'.mono ?_; rintro e w' ⟨rfl, rfl⟩) | (refine wpList_load_mid rfl 77 (.tmp 8) rfl rb 0 rfl (icl c 48 0) _ HR.out Try.underlying77 rfl (size54' c) ?_) | (refine wpList_store_new rfl 77 (.tmp 2) (.tmp 9) rfl 77 _ (arr c) rfl rfl (size54 c) (by simp [arr_size]) (one54 c) ?_))
  exact bodyPost_ret (results_cell_row rfl _ _ w.heap.size 77 (arr c) (0, 0) _ rfl (heap_alloc_last w _) Try.underlying77 rfl (size54 c)) rfl ⟨rfl, rfl⟩

/-- No list: nil, or a zero one. -/
def Zr (w : World) (p : Option Addr) : Prop := p = none ∨ ∃ rb, p = some ⟨rb, 0, none⟩ ∧ w.cell? ⟨rb, 32, none⟩ = some (.int .i64 0)
theorem Zr.keep {w w' : World} {p : Option Addr} (h : Zr w p) (hk : Kp w w' []) : Zr w' p := by
  rcases h with rfl | ⟨tb, rfl, h⟩
  · exact .inl rfl
  · exact .inr ⟨tb, rfl, hk.cell h (by simp)⟩

set_option maxRecDepth 100000 in
theorem zero_yes (w : World) (p : Option Addr) (h : Zr w p) : Calls Try.prog 71 #[.pointer p] w fun e w' => e = .returned (.bool true) ∧ w' = w := by
  rcases h with rfl | ⟨tb, rfl, c0⟩
  · go_enter Try.func71, Try.ntmps71
    go_wp2
    go_ret
    exact ⟨rfl, rfl⟩
  · go_enter Try.func71, Try.ntmps71
    go_wp2
    go_ret
    exact ⟨rfl, rfl⟩

theorem built54 : Try.prog.built 77 [] = some (arr cz) := by kernel_rfl
theorem wpList_build54 {ops : Array Oper} {rest : List Oper} {op : Oper} {a : Act} {w : World} {Q : Exit → Act → World → Prop} (hg : op.guard = none) (ho : op.op = .build 77 #[])
    (h : wpList Try.prog ops Q rest (a.put op.dst (.agg (arr cz))) w) : wpList Try.prog ops Q (op :: rest) a w := by
  refine wpList_build hg 77 #[] ho ?_ ?_
  · simp [built54]
  · simpa [built54] using h

set_option maxRecDepth 100000 in
theorem rings_zero (w : World) (p : Option Addr) (h : Zr w p) : Calls Try.prog 69 #[.pointer p] w fun e w' => e = .returned (.agg (arr cz)) ∧ w' = w.alloc (.cells (arr cz) 77) := by
  have cz' := zero_yes _ p (h.keep (Kp.alloc w (.cells (arr cz) 77) []))
  have z54 := (zero_of_info info54).1
  clear h
  go_enter Try.func69, Try.ntmps69
  go_wp2_with (first | (go_at_call 71; refine cz'.mono ?_; rintro e w' ⟨rfl, rfl⟩) | (refine wpList_build54 rfl rfl ?_) | (refine wpList_store_new rfl 77 (.tmp 2) (.tmp 5) rfl 77 _ (arr cz) rfl rfl (size54 cz) (by simp [arr_size]) (one54 cz) ?_))
  exact bodyPost_ret (results_cell_row rfl _ _ w.heap.size 77 (arr cz) (0, 0) _ rfl (heap_alloc_last w _) Try.underlying77 rfl (size54 cz)) rfl ⟨rfl, rfl⟩

set_option maxRecDepth 100000 in
theorem seq_any (w : World) (c : Nat → Nat) (p : Int) : Calls Try.prog 70 #[.agg (arr c), .int .i64 p] w fun e w' => e = .returned (.func (.func 79) #[] #[.pointer (some ⟨w.heap.size, 0, none⟩), .pointer (some ⟨w.heap.size + 1, 0, none⟩)]) ∧ w' = (w.alloc (.cells (arr c) 77)).alloc (.cells #[.int .i64 p] 3) := by
  go_enter Try.func70, Try.ntmps70
  go_wp2
  go_ret
  exact ⟨rfl, rfl⟩

/-! ### One sequence -/
/-- How many come yet, from node v on. -/
def after (ls : List Nat) (v : Nat) : Nat := if v < 32 then 0 else (ls.dropWhile (fun y => decide (y ≠ v - 32))).length
theorem drop_to {ls pre r : List Nat} {x : Nat} (h : ls = pre ++ x :: r) (hx : x ∉ pre) : ls.dropWhile (fun y => decide (y ≠ x)) = x :: r := by
  subst h
  induction pre with
  | nil => simp
  | cons y pre ih =>
    have hy : y ≠ x := by rintro rfl; exact hx (by simp)
    rw [List.cons_append, List.dropWhile_cons_of_pos (by simp [hy])]
    exact ih (fun hm => hx (by simp [hm]))
theorem after_at {ls pre r : List Nat} {x : Nat} (h : ls = pre ++ x :: r) (hn : ls.Nodup) : after ls (32 + x) = r.length + 1 := by
  unfold after
  rw [if_neg (by omega), show 32 + x - 32 = x by omega, drop_to h]
  · simp
  · rw [h, List.nodup_append] at hn
    intro hm
    exact hn.2.2 x hm x (by simp) rfl
theorem after_next {c : Nat → Nat} {ls pre r : List Nat} {x : Nat} (h : ls = pre ++ x :: r) (hn : ls.Nodup) (hr : Run c (32 + x) r) : after ls (c (32 + x)) < after ls (32 + x) := by
  rw [after_at h hn]
  cases r with
  | nil =>
    have : c (32 + x) < 32 := hr
    unfold after
    rw [if_pos this]
    omega
  | cons y r =>
    rw [hr.1, after_at (pre := pre ++ [x]) (r := r) (by rw [h]; simp) hn]
    simp

theorem YieldAt.wide {P : Program} {l : Nat} {args : Array Value} {W : World} {R : Ending → World → Prop} {m : Nat} (h : YieldAt Fence.wide m P l args W R) (m' : Nat) : YieldAt Fence.wide m' P l args W R := by
  obtain ⟨fn, tmps, assign, body, h1, h2⟩ := h
  exact ⟨fn, tmps, assign, body, h1, h2.1, fun c cs _ => h2.2 c cs (room_wide _)⟩

set_option maxRecDepth 100000 in
set_option maxHeartbeats 2000000 in
theorem seq1_seqs (n : Nat) (hn : 1 ≤ n) (c : Nat → Nat) (p : Nat) (hp : p < 32) (ls : List Nat) (hch : Run c p ls) (h16 : ∀ t ∈ ls, t < 16) (hnd : ls.Nodup) (x y : Nat) (K : World → World → Prop) (hKx : ∀ (A B : World), K A B → ∀ (c : Array Value), A.heap[x]? = some (.cells c 77 (0, 0)) → B.heap[x]? = some (.cells c 77 (0, 0))) (w : World)
    (hx : w.heap[x]? = some (.cells (arr c) 77 (0, 0))) (hy : w.heap[y]? = some (.cells #[.int .i64 (p : Nat)] 3 (0, 0))) :
    Seqs n Try.prog 79 #[.pointer (some ⟨x, 0, none⟩), .pointer (some ⟨y, 0, none⟩)] (fun t : Nat => #[.int .i64 (t : Nat)]) K ls w := by
  intro l J Jx W hW hJ hJx hY h0
  have hk := Kp.of_below hW
  have hx' := (hk.block x (lt_of_block hx) (by simp)).trans hx
  have cy := cell_one ((hk.block y (lt_of_block hy) (by simp)).trans hy)
  have cx := arr_cell hx' p (by omega)
  have HX := hid hx'
  have HY := hid hY
  have H0 := hid h0
  have HC := hid hch
  have HD := hid hnd
  have HS := hid h16
  clear hW hJ hJx hY h0 hx hy hk hx' hch hnd h16
  show CallsIn Fence.wide n Try.prog 79 #[.func (.yield l) #[] #[], .pointer (some ⟨x, 0, none⟩), .pointer (some ⟨y, 0, none⟩)] W _
  refine callsIn_of_wp Try.func79 rfl trivial ?_ rfl
  simp only [Try.ntmps79, List.size_toArray, List.length_cons, List.length_nil, Nat.reduceAdd, Nat.reduceSub, Array.replicate_succ, Array.replicate_zero, List.push_toArray, List.append_toArray, List.nil_append, List.cons_append]
  gi_wp2
  gi_loopw [4] (fun v wr => ∃ pre rest a, ls = pre ++ rest ∧ a < 48 ∧ Run c a rest ∧ v = .int .i64 (c a : Nat) ∧ Hid (J pre wr) ∧ Hid (wr.heap[x]? = some (.cells (arr c) 77 (0, 0))))
    (fun v _ => after ls (intOf v).toNat)
  case atStart => exact ⟨[], ls, p, rfl, by omega, HC.out, rfl, H0, HX⟩
  case round =>
    obtain ⟨pre, rest, a, hls, ha, hrun, rfl, hJs, hXs⟩ := hrel
    cases rest with
    | nil =>
      have hend : ¬ (32 : Int) ≤ ((c a : Nat) : Int) := by have : c a < 32 := hrun; omega
      have HL := hid hls
      clear hls hrun
      gi_wp2
      go_end0
      refine ⟨⟨_, rfl⟩, .inl ?_⟩
      rw [HL.out, List.append_nil]
      exact hJs.out
    | cons t rest =>
      have ht16 := HS.out t (by rw [hls]; simp)
      have hca : c a = 32 + t := hrun.1
      have hgo : (32 : Int) ≤ ((32 + t : Nat) : Int) := by omega
      have HL := hid hls
      have HR := hid hrun.2
      have HM := hid (after_next hls HD.out hrun.2)
      have hpx : pre ++ [t] <+: ls := ⟨rest, by rw [hls]; simp⟩
      rw [hca]
      clear hls hrun
      obtain ⟨fn, tmps, assign, body, hy, hRR⟩ := HY.out pre t wr hJs.out hpx
      have HRR := hid hRR
      rw [show ((32 + t : Nat) : Int) = 32 + (t : Int) by simp] at hgo ⊢
      have hsub : (32 + (t : Int) - 32) = t := by omega
      clear hRR hpx
      gi_wp2
      refine HRR.out.mono ?_
      rintro e W3 ⟨-, (⟨rfl, hJ3, hk3⟩ | ⟨rfl, hJx3⟩)⟩
      · have J3 := hid hJ3
        have X3 := hid (hKx _ _ hk3 _ hXs.out)
        have cn := arr_cell X3.out (32 + t) (by omega)
        clear hJ3 hk3
        gi_wp2
        go_roundw
        case rel => exact ⟨pre ++ [t], rest, 32 + t, by rw [HL.out]; simp, by omega, HR.out, rfl, J3, X3⟩
        case measure =>
          have := HM.out
          simp only [intOf, Int.toNat_natCast]
          rw [show (32 + (t : Int)).toNat = 32 + t by omega]
          exact this
      · have JX := hid hJx3
        clear hJx3
        gi_wp2
        refine bodyPost_ret (results_none rfl _ _ _) rfl ?_
        exact ⟨⟨_, rfl⟩, .inr ⟨_, ⟨rest, by rw [HL.out]; simp⟩, JX.out⟩⟩
end Go.Proofs.Ytclbphnelfacfaa
