/- stands: does the program's table tell what the document's does? -/
import Derived.Test.YtaofpijcjohnhaaNext
import Derived.Shelf.RegionOpen
namespace Go.Proofs.Ytaofpijcjohnhaa
open Go.RowKit Go.Shelf
attribute [local go_sem] Oper.semAt_some

theorem cnt_step {T : Pl} {n j : Nat} (hw : ∀ i, n ≤ i → T i = (false, 0)) (hn : n ≤ 16) : (tkp T (min j 16)).length = (tkp T (min (j - 1) 16)).length + if ofB T n ((j : Int) - 1) then 1 else 0 := by
  cases j with
  | zero =>
    rw [(ofB_false (T := T) (n := n) (i := ((0 : Nat) : Int) - 1) (by omega)).1]
    simp
  | succ j =>
    by_cases h16 : j < 16
    · rw [show min (j + 1) 16 = j + 1 by omega, show min (j + 1 - 1) 16 = j by omega, tkp]
      have e : (((j + 1 : Nat) : Int) - 1) = (j : Int) := by omega
      rw [e]
      cases ht : (T j).1 with
      | true =>
        have hj : j < n := by
          rcases Nat.lt_or_ge j n with h | h
          · exact h
          · rw [hw j h] at ht; cases ht
        rw [(ofB_true (T := T) (n := n) (i := j) (by omega) (by omega) (by simpa using ht)).1]
        simp
      | false =>
        rw [(ofB_false (T := T) (n := n) (i := j) (by simp [ht])).1]
        simp
    · rw [show min (j + 1) 16 = 16 by omega, show min (j + 1 - 1) 16 = 16 by omega]
      rw [(ofB_false (T := T) (n := n) (i := (((j + 1 : Nat) : Int) - 1)) (by omega)).1]
      simp

theorem wp_only {P : Program} {c : Code} {Q : Exit → Act → World → Prop} {a : Act} {w : World} (h : c.wp P (fun e a' w' => match e with | .normal => Q .normal a' w' | _ => False) a w) : c.wp P Q a w :=
  wp_mono h fun e _ _ h => by
    cases e with
    | normal => exact h
    | _ => exact h.elim

/-- The law's first boxes: the reference, when to leave, the answer. -/
structure Bx (wr W : World) (a0 a1 a2 rb : Nat) (leave : Int) : Prop where
  r : W.heap[a0]? = some (.cells #[.pointer (some ⟨rb, 0, none⟩)] 27 (0, 0))
  lv : W.heap[a1]? = some (.cells #[.int .i64 leave] 3 (0, 0))
  res : W.heap[a2]? = some (.cells #[.bool false] 4 (0, 0))
  k : Kp wr W []
theorem Bx.keep {wr W W' : World} {a0 a1 a2 rb : Nat} {leave : Int} (h : Bx wr W a0 a1 a2 rb leave) (hk : Kp W W' []) : Bx wr W' a0 a1 a2 rb leave :=
  ⟨(hk.block a0 (lt_of_block h.r) (by simp)).trans h.r, (hk.block a1 (lt_of_block h.lv) (by simp)).trans h.lv, (hk.block a2 (lt_of_block h.res) (by simp)).trans h.res, h.k.trans hk⟩
theorem three_new (w : World) (o0 o1 o2 : Obj) (W : World) (h : ((w.alloc o0).alloc o1).alloc o2 = W) :
    W.heap[w.heap.size]? = some o0 ∧ W.heap[w.heap.size + 1]? = some o1 ∧ W.heap[w.heap.size + 1 + 1]? = some o2 ∧ Kp w W [] ∧ W.heap.size = w.heap.size + 3 := by
  subst h
  have f : ∀ (v : World) (o : Obj) (k : Nat) (x : Obj), v.heap[k]? = some x → (v.alloc o).heap[k]? = some x := fun v o k x hx => (Below.heap_alloc v o k (lt_of_block hx)).trans hx
  have e0 := heap_alloc_new w o0
  have e1 := heap_alloc_new (w.alloc o0) o1
  have e2 := heap_alloc_new ((w.alloc o0).alloc o1) o2
  simp only [World.size_alloc] at e1 e2
  refine ⟨f _ _ _ _ (f _ _ _ _ e0), f _ _ _ _ e1, e2, ?_, by simp⟩
  exact ((Kp.alloc _ _ _).trans (Kp.alloc _ _ _)).trans (Kp.alloc _ _ _)

set_option maxRecDepth 100000 in
set_option maxHeartbeats 4000000 in
theorem stands_any (w ws : World) (tb rb mb n : Nat) (s : Int) (T : Pl) (l : List Int) (ao : Option Addr) (cp m : Nat) (leave : Int) (h : Dv w ws tb rb mb n s T l ao cp m) (hs : s ≤ 1000000) (h1 : 1 ≤ n) (h2 : n ≤ 16) (hm : m ≤ 90000) :
    Calls Try.prog 14 #[.pointer (some ⟨tb, 0, none⟩), .pointer (some ⟨rb, 0, none⟩), .slice ao m cp, .int .i64 leave] ws fun e w' => e = .returned (.bool true) ∧ Kp ws w' [] := by
  refine (callsIn_wide (n := 6)).1 ?_
  have h16 : 1 ≤ 6 := by decide
  have HD := hid h
  have HG := hid (h.gd' hs)
  clear h
  refine callsIn_of_wp_marks Try.func14 rfl trivial ?_ rfl
  simp only [Try.ntmps14, List.size_toArray, List.length_cons, List.length_nil, Nat.reduceAdd, Nat.reduceSub, Array.replicate_succ, Array.replicate_zero, List.push_toArray, List.append_toArray, List.nil_append, List.cons_append]
  refine wpIn_wide.2 ?_
  go_wp2_with fail
  obtain ⟨W0, hW0⟩ : ∃ W0, ((ws.alloc (.cells #[.pointer (some ⟨rb, 0, none⟩)] 27)).alloc (.cells #[.int .i64 leave] 3)).alloc (.cells #[.bool false] 4) = W0 := ⟨_, rfl⟩
  obtain ⟨e0, e1, e2, eK, eS⟩ := three_new ws _ _ _ W0 hW0
  rw [hW0]
  obtain ⟨a0, h0'⟩ : ∃ a0, ws.heap.size = a0 := ⟨_, rfl⟩
  obtain ⟨a1, h1'⟩ : ∃ a1, ws.heap.size + 1 = a1 := ⟨_, rfl⟩
  obtain ⟨a2, h2'⟩ : ∃ a2, ws.heap.size + 1 + 1 = a2 := ⟨_, rfl⟩
  have NA := hid (show ws.heap.size = a0 ∧ a0 < a1 ∧ a1 < a2 ∧ a2 < W0.heap.size by omega)
  rw [h2'] at e2 ⊢
  rw [h1'] at e1 ⊢
  rw [h0'] at e0 ⊢
  have B0 := hid (show Bx ws W0 a0 a1 a2 rb leave from ⟨e0, e1, e2, eK⟩)
  clear e0 e1 e2 eK eS h0' h1' h2' hW0
  go_loopw [9, 10] (fun vn vi W => ∃ j : Nat, j ≤ 18 ∧ vi = .int .i64 ((j : Int) - 1) ∧ vn = .int .i64 ((tkp T (min (j - 1) 16)).length : Nat) ∧ Hid (Bx ws W a0 a1 a2 rb leave)) (fun _ vi _ => (17 - intOf vi).toNat)
  case atStart => exact ⟨0, by omega, rfl, rfl, B0.out⟩
  case round =>
    obtain ⟨j, hj, rfl, rfl, hB⟩ := hrel
    by_cases hj17 : j ≤ 17
    · have hjI : (j : Int) - 1 ≤ 16 := by omega
      have cnt := hid (cnt_step (T := T) (j := j) HD.out.wf h2)
      have hc16 := tkp_length T (min (j - 1) 16)
      have hc16' : min (j - 1) 16 ≤ 16 := by omega
      obtain ⟨c, hc⟩ : ∃ c : Nat, (tkp T (min (j - 1) 16)).length = c := ⟨_, rfl⟩
      rw [hc] at cnt hc16 ⊢
      obtain ⟨i, hi⟩ : ∃ i : Int, (j : Int) - 1 = i := ⟨_, rfl⟩
      have HI := hid hi
      rw [hi] at cnt hjI ⊢
      have hib : -1 ≤ i := by omega
      clear hc hi
      go_wp2_with fail
      refine (of_any _ tb n T i (HD.out.keep hB.out.k).tt HG.out (by omega) (by omega)).mono ?_
      rintro e W1 ⟨rfl, k1⟩
      have B1 := hid (hB.out.keep k1)
      clear k1 hB
      have u0 := cell_one B1.out.r
      go_wp2_with fail
      refine (rof_any W1 rb mb n T i (HD.out.keep B1.out.k).rt HG.out h2).mono ?_
      rintro e W2 ⟨rfl, rfl⟩
      cases hb : ofB T n i with
      | true =>
        rw [hb] at cnt
        obtain ⟨v, hv⟩ : ∃ v, ofV T n i = v := ⟨_, rfl⟩
        rw [hv]
        clear hb hv
        go_wp2
        go_roundw
        case rel => exact ⟨j + 1, by omega, by have := HI.out; simp; omega, by rw [Nat.add_sub_cancel, cnt.out]; simp, B1.out⟩
        case measure => simp [intOf]; omega
      | false =>
        rw [hb] at cnt
        obtain ⟨v, hv⟩ : ∃ v, ofV T n i = v := ⟨_, rfl⟩
        rw [hv]
        clear hb hv
        go_wp2
        go_roundw
        case rel => exact ⟨j + 1, by omega, by have := HI.out; simp; omega, by rw [Nat.add_sub_cancel, cnt.out]; simp, B1.out⟩
        case measure => simp [intOf]; omega
    · have hjI : ¬ (j : Int) - 1 ≤ 16 := by omega
      obtain rfl : j = 18 := by omega
      have ct16 := tkp_length T 16
      rw [show min (18 - 1) 16 = 16 from rfl, show (((18 : Nat) : Int) - 1) = 17 from rfl]
      obtain ⟨c, hc⟩ : ∃ c : Nat, (tkp T 16).length = c := ⟨_, rfl⟩
      have HC := hid hc
      rw [hc] at ct16 ⊢
      clear hc hjI hj17 hj
      go_wp2_with fail
      go_loopw [15] (fun vj W => ∃ j : Nat, j ≤ m ∧ vj = .int .i64 j ∧ Hid (Bx ws W a0 a1 a2 rb leave)) (fun vj _ => m - (intOf vj).toNat)
      case atStart => exact ⟨0, by omega, rfl, hB.out⟩
      case round =>
        obtain ⟨j, hj, rfl, hB'⟩ := hrel
        clear hB
        by_cases hjm : j < m
        · have hjI : (j : Int) < m := by omega
          have D1 := HD.out.keep hB'.out.k
          obtain ⟨g, hao, -, cG, -⟩ := own_at D1.ol hjm
          rw [gi_at (by rw [D1.len]; exact hjm)] at cG
          obtain ⟨y, hy⟩ : ∃ y, l.getD j 0 = y := ⟨_, rfl⟩
          rw [hy] at cG
          subst hao
          clear hy
          go_wp2_with fail
          refine (at_any _ tb n T y D1.tt HG.out (by omega) (by omega)).mono ?_
          rintro e W1 ⟨rfl, k1⟩
          have B1 := hid (hB'.out.keep k1)
          have cG1 := k1.cell cG (by simp)
          have u0 := cell_one B1.out.r
          clear k1 hB' D1 cG
          obtain ⟨av, hav⟩ : ∃ av, atV T n y = av := ⟨_, rfl⟩
          obtain ⟨ab, hab⟩ : ∃ ab, atB T n y = ab := ⟨_, rfl⟩
          have HA := hid (show atV T n y = av ∧ atB T n y = ab from ⟨hav, hab⟩)
          rw [hav, hab]
          clear hav hab
          have HRT := hid (show ∀ k, Calls Try.prog 13 #[.pointer (some ⟨rb, 0, none⟩), .int .i64 y] (W1.drewN k) fun e w' => e = .returned (.tuple #[.int .i64 av, .bool ab]) ∧ w' = W1.drewN k from fun k => by
            have := rat_any (W1.drewN k) rb mb n T y ((HD.out.keep B1.out.k).rt.keep (Kp.drewN _ k []) (by simp) (by simp)) HG.out h2
            rw [HA.out.1, HA.out.2] at this
            exact this)
          go_wp2_with fail
          go_quiet ((go_at_call 13; exact Calls.quiet_of_same (HRT.out _)))
          have B2 := hid (B1.out.keep (Kp.drewN W1 nq []))
          clear HRT B1 u0 cG1
          go_wp2
          go_roundw
          case rel => exact ⟨j + 1, by omega, by simp, B2.out⟩
          case measure => simp [intOf]; omega
        · have hjI : ¬ (j : Int) < m := by omega
          clear B0
          go_wp2_with fail
          refine ((callsIn_wide (n := 6)).1 (all_in 6 _ _)).mono ?_
          rintro e w' ⟨rfl, rfl⟩
          have hnn := fn_not_nil
          have B3 := hid (hB'.out.keep (Kp.alloc wr (.cells #[.pointer (some ⟨tb, 0, none⟩)] 23) []))
          have I3 := hid (heap_alloc_new wr (.cells #[.pointer (some ⟨tb, 0, none⟩)] 23))
          obtain ⟨W3, hW3⟩ : ∃ W3, wr.alloc (.cells #[.pointer (some ⟨tb, 0, none⟩)] 23) = W3 := ⟨_, rfl⟩
          obtain ⟨a3, ha3⟩ : ∃ a3, wr.heap.size = a3 := ⟨_, rfl⟩
          have N3 := hid (show a2 < a3 ∧ a3 < W3.heap.size by rw [← ha3, ← hW3]; have := lt_of_block hB'.out.res; simp; exact this)
          rw [hW3] at B3 I3 ⊢
          rw [ha3] at I3 ⊢
          have D3 := hid (HD.out.keep B3.out.k)
          have u0 := cell_one B3.out.r
          have u1 := D3.out.rt.cell
          clear hW3 ha3 hB'
          go_wp2_with fail
          refine wp_only ?_
          go_region_held_law (fun w' => w'.cell? ⟨a0, 0, none⟩ = some (.pointer (some ⟨rb, 0, none⟩)) ∧ w'.cell? ⟨rb, 0, none⟩ = some (.slice (some ⟨mb, 0, none⟩) n n))
            (first
              | exact ⟨hy.cell (by simpa using u0) (by simp), hy.cell (by simpa using u1) (by simp)⟩
              | exact ⟨by simpa using u0, by simpa using u1⟩)
            (first
              | (go_at_call 19; refine (len_ok _ tb n T (D3.out.tt.keep (Kp.drew _ []) (by simp)) HG.out (by omega)).mono ?_; rintro e y ⟨rfl, hy⟩; rw [HC.out])
              | (go_at_call 27; refine (places_ok _ tb n T ((D3.out.tt.keep (Kp.drew _ []) (by simp)).keep hy (by simp)) (by omega)).mono ?_; rintro e y' ⟨rfl, rfl⟩))
          have B4 := hid ((B3.out.keep (Kp.drew _ [])).keep hy)
          have I4 := hid ((hy.block a3 (by have := N3.out.2; exact this) (by simp)).trans I3.out)
          have N4 := hid (show a2 < a3 ∧ a3 < y'.heap.size from ⟨N3.out.1, lt_of_block I4.out⟩)
          clear hy B3 I3 N3 D3 u0 u1
          show Exit.then _ _ Exit.normal _ _
          go_wp2_with fail
          have L0 := hid (show Lb ws _ a0 a1 a2 a3 y'.heap.size rb tb leave 0 from ⟨(Below.heap_alloc _ _ _ (lt_of_block B4.out.r)).trans B4.out.r, (Below.heap_alloc _ _ _ (lt_of_block B4.out.lv)).trans B4.out.lv, (Below.heap_alloc _ _ _ (lt_of_block B4.out.res)).trans B4.out.res, (Below.heap_alloc _ _ _ (lt_of_block I4.out)).trans I4.out, heap_alloc_new y' (.cells #[.int .i64 0] 3), (B4.out.k.trans (Kp.alloc y' (.cells #[.int .i64 0] 3) [])).below⟩)
          have hap : ws.heap.size = a0 ∧ a0 < a1 ∧ a1 < a2 ∧ a2 < a3 ∧ a3 < y'.heap.size := by have := NA.out; have := N4.out; omega
          clear B4 I4 N4 NA
          refine (wpIn_wide (n := 6)).1 ?_
          refine wpIn_loop (fun a W => ∃ (t qb : Nat) (Ds : List Nat) (x22 x23 x107 x108 x109 x110 x111 x142 x143 x144 x145 x146 x147 x148 x149 x150 x151 x152 x153 x154 x155 x156 x157 x158 x159 x160 x161 x162 x163 : Value), t ≤ 2 ∧ Ds.length = t ∧ a3 < qb ∧ a = { tmps := #[.pointer (some ⟨tb, 0, none⟩), .pointer (some ⟨rb, 0, none⟩), .slice ao m cp, .int .i64 leave, undef, .pointer (some ⟨a0, 0, none⟩), undef, .pointer (some ⟨a1, 0, none⟩), .pointer (some ⟨a2, 0, none⟩), .int .i64 (c : Int), .int .i64 17, u11, u12, u13, u14, .int .i64 (j : Int), u16, u17, u18, u19, .func (.func 32) #[] #[.pointer (some ⟨a3, 0, none⟩)], .pointer (some ⟨qb, 0, none⟩), x22, x23, undef, undef, undef, undef, .int .i64 17, .bool false, u30, u31, u32, u33, u34, u35, u36, u37, u38, u39, u40, u41, u42, u43, u44, u45, u46, u47, u48, u49, u50, u51, u52, u53, u54, .int .i64 (j : Int), .slice ao m cp, .int .i64 (m : Int), .bool false, u59, u60, u61, u62, u63, u64, u65, u66, u67, u68, u69, u70, u71, u72, u73, u74, u75, u76, u77, u78, u79, u80, u81, u82, u83, u84, u85, u86, .pointer (some ⟨tb, 0, none⟩), .func (.func 32) #[] #[.pointer (some ⟨a3, 0, none⟩)], .func (.func 32) #[] #[.pointer (some ⟨a3, 0, none⟩)], .bool false, .bool false, .pointer (some ⟨tb, 0, none⟩), .int .i64 (c : Int), .int .i64 (c : Int), .bool false, .bool false, .bool false, .pointer (some ⟨tb, 0, none⟩), .int .i64 (n : Int), .pointer (some ⟨rb, 0, none⟩), .pointer (some ⟨rb, 0, none⟩), .pointer (some ⟨rb, 0, none⟩), .slice (some ⟨mb, 0, none⟩) n n, .int .i64 (n : Int), .bool false, .bool false, x107, x108, x109, x110, x111, undef, undef, undef, undef, undef, undef, undef, undef, undef, undef, undef, undef, undef, undef, undef, undef, undef, undef, undef, undef, undef, undef, undef, undef, undef, undef, undef, undef, undef, undef, x142, x143, x144, x145, x146, x147, x148, x149, x150, x151, x152, x153, x154, x155, x156, x157, x158, x159, x160, x161, x162, x163], defers := marks Ds } ∧ Live ws.heap.size W Ds ∧ Lb ws W a0 a1 a2 a3 qb rb tb leave t)
            (fun a _ => 2 - a.defers.length) ⟨0, y'.heap.size, [], _, _, _, _, _, _, _, _, _, _, _, _, _, _, _, _, _, _, _, _, _, _, _, _, _, _, _, _, _, by decide, rfl, hap.2.2.2.2, rfl, ⟨by simp, by simp, by simp⟩, L0.out⟩ ?_
          rintro a W ⟨t, qb, Ds, x22, x23, x107, x108, x109, x110, x111, x142, x143, x144, x145, x146, x147, x148, x149, x150, x151, x152, x153, x154, x155, x156, x157, x158, x159, x160, x161, x162, x163, ht, hDs, htb, rfl, hLive, hLb⟩
          have c0 := cell_one hLb.r
          have c1 := cell_one hLb.lv
          have c4 := cell_one hLb.turn
          have f4 := free_one hLb.turn
          have HLB := hid hLb
          have HLV := hid hLive
          have HDS := hid hDs
          by_cases ht2 : t = 2
          · subst ht2
            have c2 := cell_one hLb.res
            have f2 := free_one hLb.res
            obtain ⟨D1, D2, rfl⟩ : ∃ D1 D2, Ds = [D1, D2] := by
              match Ds, hDs with
              | [x, y], _ => exact ⟨x, y, rfl⟩
            clear hLb hLive hDs
            gi_wp2
            go_wp2
            have LS := HLV.out.set HLB.out.res (.bool true)
            have hd12 : D2 ≠ D1 := by have := LS.2.1; simp at this; omega
            have hl1 := LS.2.2 D1 (by simp)
            have hl2 := LS.2.2 D2 (by simp)
            have k1 := LS.1 D1 (by simp)
            have k2 := LS.1 D2 (by simp)
            have r2 := set_one (x := .bool true) HLB.out.res
            have hr1 : a2 ≠ D1 := by rintro rfl; rw [r2] at k1; simp at k1
            have hr2 : a2 ≠ D2 := by rintro rfl; rw [r2] at k2; simp at k2
            refine ⟨by simp, .inl ⟨_, _, rfl, run_takeDeferred k1, ⟨by simp, .inl ⟨_, _, rfl, run_takeDeferred ((World.putObj_heap_other hd12).trans k2), ?_⟩⟩⟩⟩
            have hcell := cell_one ((World.putObj_heap_other (o := .deferred none) hr2).trans ((World.putObj_heap_other (o := .deferred none) hr1).trans r2))
            refine ⟨.bool true, by simp [results, Try.results14, go_sem, hcell], rfl, ?_⟩
            have hk := (Kp.of_below HLB.out.k).past (Kp.setCell W ⟨a2, 0, none⟩ (.bool true)) (by intro k hk hlt; simp at hk; omega)
            exact ⟨hk.os, hk.tape, hk.output, by have := hk.size; simp [World.putObj] at this ⊢; exact this, fun k hk' _ => (World.putObj_heap_other (by omega)).trans ((World.putObj_heap_other (by omega)).trans (hk.block k hk' (by simp)))⟩
          · have ht1 : (t : Int) < 2 := by omega
            clear hLb hLive hDs
            gi_wp2
            obtain ⟨nb, hnb⟩ : ∃ nb, W.heap.size = nb := ⟨_, rfl⟩
            obtain ⟨lb, hlb⟩ : ∃ lb, W.heap.size + 1 = lb := ⟨_, rfl⟩
            have A1 := hid ((Below.heap_alloc _ (.cells #[.int .i64 (-1)] 3) _ (by simp)).trans (heap_alloc_new W (.cells #[.int .i64 0] 3)))
            have A2 := heap_alloc_new (W.alloc (.cells #[.int .i64 0] 3)) (.cells #[.int .i64 (-1)] 3)
            simp only [World.size_alloc] at A2
            have A2 := hid A2
            rw [hnb] at A1
            rw [hlb] at A2
            have L1 := hid ((HLB.out.alloc (.cells #[.int .i64 0] 3)).alloc (.cells #[.int .i64 (-1)] 3))
            have V1 := hid ((HLV.out.alloc (.cells #[.int .i64 0] 3)).alloc (.cells #[.int .i64 (-1)] 3))
            have DL := hid (show ∀ D ∈ Ds, D < nb from fun D hm => by rw [← hnb]; exact lt_of_block (HLV.out.1 D hm))
            have hbt : qb < nb := by rw [← hnb]; exact lt_of_block HLB.out.turn
            have hnl : lb = nb + 1 := by omega
            obtain ⟨W1, hW1⟩ : ∃ W1, (W.alloc (.cells #[.int .i64 0] 3)).alloc (.cells #[.int .i64 (-1)] 3) = W1 := ⟨_, rfl⟩
            rw [hW1] at A1 A2 L1 V1
            rw [hlb, hnb, hW1]
            have hs1 : W1.heap.size = nb + 2 := by rw [← hW1, ← hnb]; simp
            clear hnb hlb hW1 c0 c1 c4 f4
            refine wpIn_rangeFunc_ownH rfl h16 (gf := 32) (lb := #[.pointer (some ⟨a3, 0, none⟩)]) rfl trivial (enters_of Try.func32 (by kernel_rfl) rfl)
              (its_table HD.out.tt (by omega) HG.out W1 a3 W1.heap.size (Kp.of_below L1.out.k) (cell_one L1.out.it) (Nat.le_refl _)) Kc.trans (fun W l o o' _ h hc _ => kc_put _ W l o o' h hc) (Below.refl _ _) (fun _ => rfl)
              (fun pre W => (W.heap[nb]? = some (.cells #[.int .i64 pre.length] 3 (0, 0)) ∧ W.heap[lb]? = some (.cells #[.int .i64 (lastOf pre)] 3 (0, 0))) ∧ Live ws.heap.size W Ds ∧ Lb ws W a0 a1 a2 a3 qb rb tb leave t)
              (fun cc pre W => (cc = .exit 6 ∧ t = 0 ∧ W.heap[nb]? = some (.cells #[.int .i64 leave] 3 (0, 0)) ∧ Live ws.heap.size W Ds ∧ Lb ws W a0 a1 a2 a3 qb rb tb leave t) ∨ (cc = .ret ∧ ¬ pre <+: tkp T 16))
              (fun s A B row hs hg hr => ⟨⟨cells_kept hs.1.1 hg hr, cells_kept hs.1.2 hg hr⟩, hs.2.1.own (D0 := nb) DL.out hg (fun r e => by have := (hr r e).1; omega), hs.2.2.own (D := W1.heap.size) (by omega) hg hr⟩)
              (fun cc s A B row hs hg hr => by
                rcases hs with ⟨e, e', x1, x2, x3⟩ | hs
                · exact .inl ⟨e, e', cells_kept x1 hg hr, x2.own (D0 := nb) DL.out hg (fun r e => by have := (hr r e).1; omega), x3.own (D := W1.heap.size) (by omega) hg hr⟩
                · exact .inr hs)
              ⟨⟨by simpa using A1.out, by simpa [lastOf] using A2.out⟩, V1.out, L1.out⟩
              (fun x a' W => a' = { tmps := #[.pointer (some ⟨tb, 0, none⟩), .pointer (some ⟨rb, 0, none⟩), .slice ao m cp, .int .i64 leave, undef, .pointer (some ⟨a0, 0, none⟩), undef, .pointer (some ⟨a1, 0, none⟩), .pointer (some ⟨a2, 0, none⟩), .int .i64 (c : Int), .int .i64 17, u11, u12, u13, u14, .int .i64 (j : Int), u16, u17, u18, u19, .func (.func 32) #[] #[.pointer (some ⟨a3, 0, none⟩)], .pointer (some ⟨qb, 0, none⟩), .pointer (some ⟨nb, 0, none⟩), .pointer (some ⟨lb, 0, none⟩), .int .i64 (x.1 : Nat), .int .i64 x.2, undef, undef, .int .i64 17, .bool false, u30, u31, u32, u33, u34, u35, u36, u37, u38, u39, u40, u41, u42, u43, u44, u45, u46, u47, u48, u49, u50, u51, u52, u53, u54, .int .i64 (j : Int), .slice ao m cp, .int .i64 (m : Int), .bool false, u59, u60, u61, u62, u63, u64, u65, u66, u67, u68, u69, u70, u71, u72, u73, u74, u75, u76, u77, u78, u79, u80, u81, u82, u83, u84, u85, u86, .pointer (some ⟨tb, 0, none⟩), .func (.func 32) #[] #[.pointer (some ⟨a3, 0, none⟩)], .func (.func 32) #[] #[.pointer (some ⟨a3, 0, none⟩)], .bool false, .bool false, .pointer (some ⟨tb, 0, none⟩), .int .i64 (c : Int), .int .i64 (c : Int), .bool false, .bool false, .bool false, .pointer (some ⟨tb, 0, none⟩), .int .i64 (n : Int), .pointer (some ⟨rb, 0, none⟩), .pointer (some ⟨rb, 0, none⟩), .pointer (some ⟨rb, 0, none⟩), .slice (some ⟨mb, 0, none⟩) n n, .int .i64 (n : Int), .bool false, .bool false, .int .i64 (t : Int), .bool true, x109, x110, .func (.func 32) #[] #[.pointer (some ⟨a3, 0, none⟩)], .int .i64 (x.1 : Nat), .int .i64 x.2, undef, undef, undef, undef, undef, undef, undef, undef, undef, undef, undef, undef, undef, undef, undef, undef, undef, undef, undef, undef, undef, undef, undef, undef, undef, undef, undef, undef, x142, x143, x144, x145, x146, x147, x148, x149, x150, x151, x152, x153, x154, x155, x156, x157, x158, x159, x160, x161, x162, x163], defers := [] })
              (fun x a' s A B row hs hg hr => hs)
              ?assign ?body ?done ?stop
            case assign =>
              rintro l pre x W K hi hK
              have HK := hid hK
              have HIn := hid hi
              clear hK hi
              gi_wp2
              exact HK.out _ _ ((KeepsOthers.refl _).from _) (Kc.refl _ _) HIn.out (by simp)
            case body =>
              rintro l' pre x a' W hlw ⟨rr, hrr⟩ ⟨⟨hn, hla⟩, hLive, hLb⟩ rfl hlt
              have hle := Nat.le_trans (Nat.le_of_lt hlt) (tkp_length T 16)
              have c0 := cell_one hLb.r
              have c1 := cell_one hLb.lv
              have c2 := cell_one hLb.res
              have f2 := free_one hLb.res
              have c4 := cell_one hLb.turn
              have c5 := cell_one hn
              have f5 := free_one hn
              have c6 := cell_one hla
              have f6 := free_one hla
              have cr := ((callsIn_wide (n := 3)).2 (rof_any W rb mb n T x.1 ((HD.out.keep (Kp.of_below hLb.k)).rt) HG.out h2)).inRound l'
              have hf25 : Fence.wide.fn 25 := trivial
              obtain ⟨La, hLa⟩ : ∃ La, lastOf pre = La := ⟨_, rfl⟩
              obtain ⟨bv, hbv⟩ : ∃ bv, ofB T n x.1 = bv := ⟨_, rfl⟩
              obtain ⟨vv, hvv⟩ : ∃ vv, ofV T n x.1 = vv := ⟨_, rfl⟩
              have HX := hid (show lastOf pre = La ∧ ofB T n x.1 = bv ∧ ofV T n x.1 = vv from ⟨hLa, hbv, hvv⟩)
              rw [hLa] at c6
              rw [hbv, hvv] at cr
              have HN := hid hn
              have HLA := hid hla
              have HLBB := hid hLb
              have HLI := hid hLive
              have hne5 : nb ≠ a0 ∧ nb ≠ a1 ∧ nb ≠ a2 ∧ nb ≠ a3 ∧ nb ≠ qb := by omega
              have hne6 : lb ≠ a0 ∧ lb ≠ a1 ∧ lb ≠ a2 ∧ lb ≠ a3 ∧ lb ≠ qb := by omega
              have hln : nb ≠ lb := by omega
              have HNL := hid hnl
              have HS1 := hid hs1
              clear hnl hs1
              clear hLb hn hla hrr hLive hLa hbv hvv
              by_cases hgood : La < x.1 ∧ bv = true ∧ vv = x.2
              · obtain ⟨g1, rfl, rfl⟩ := hgood
                have g1' : ¬ (x.1 : Int) ≤ La := by omega
                have gx : (x.2 != x.2) = false := by simp
                have hW1 := set_one (x := .int .i64 (x.1 : Nat)) HLA.out
                have hN1 := (Below.heap_setCell W ⟨lb, 0, none⟩ (.int .i64 (x.1 : Nat)) nb hln).trans HN.out
                have c5' := cell_one hN1
                have f5' := free_one hN1
                have Lb1 := HLBB.out.cnt hne6 (by have := HNL.out; omega) (.int .i64 (x.1 : Nat))
                have Lb2 := Lb1.cnt hne5 (by omega) (.int .i64 ((pre.length : Int) + 1))
                have hN2 := set_one (x := .int .i64 ((pre.length : Int) + 1)) hN1
                have hL2 := (Below.heap_setCell (W.setCell ⟨lb, 0, none⟩ (.int .i64 (x.1 : Nat))) ⟨nb, 0, none⟩ (.int .i64 ((pre.length : Int) + 1)) lb (Ne.symm hln)).trans hW1
                have d4 := cell_one Lb2.turn
                have d1 := cell_one Lb2.lv
                have d5 := cell_one hN2
                have LV2 := hid ((HLI.out.set HLA.out (.int .i64 (x.1 : Nat))).set hN1 (.int .i64 ((pre.length : Int) + 1)))
                have HL2 := hid hL2
                have HN2 := hid hN2
                have LB2 := hid Lb2
                clear hW1 hN1 hN2 hL2 Lb1 Lb2
                by_cases htz : t = 0
                · have tz : ((t : Int) == 0) = true := by rw [htz]; rfl
                  have HT := hid htz
                  clear htz
                  by_cases hle' : (pre.length : Int) + 1 = leave
                  · have tl : ((pre.length : Int) + 1 == leave) = true := by simp [hle']
                    have HLE := hid hle'
                    clear hle'
                    gi_wp2_with (gi_at_call 25; refine cr.mono ?_; rintro e w' ⟨rfl, rfl⟩)
                    refine ⟨((KeepsOthers.setCell _ ⟨lb, 0, none⟩ (.int .i64 (x.1 : Nat))).trans (KeepsOthers.setCell _ ⟨nb, 0, none⟩ (.int .i64 ((pre.length : Int) + 1)))).from _, .inl ⟨rfl, HT.out, ?_, LV2.out, LB2.out⟩⟩
                    rw [← HLE.out]
                    exact HN2.out
                  · have tl : ((pre.length : Int) + 1 == leave) = false := by simp [hle']
                    clear hle'
                    gi_wp2_with (gi_at_call 25; refine cr.mono ?_; rintro e w' ⟨rfl, rfl⟩)
                    refine ⟨((KeepsOthers.setCell _ ⟨lb, 0, none⟩ (.int .i64 (x.1 : Nat))).trans (KeepsOthers.setCell _ ⟨nb, 0, none⟩ (.int .i64 ((pre.length : Int) + 1)))).from _, Kc.trans (Kc.of_kp (Kp.setCell _ ⟨lb, 0, none⟩ _) (by have := HNL.out; have := HS1.out; simp; omega)) (Kc.of_kp (Kp.setCell _ ⟨nb, 0, none⟩ _) (by have := HS1.out; simp; omega)), ⟨?_, ?_⟩, LV2.out, LB2.out⟩
                    · rw [List.length_append]; simpa using HN2.out
                    · rw [lastOf_snoc]; exact HL2.out
                · have tz : ((t : Int) == 0) = false := by rw [beq_eq_false_iff_ne]; omega
                  clear htz
                  gi_wp2_with (gi_at_call 25; refine cr.mono ?_; rintro e w' ⟨rfl, rfl⟩)
                  refine ⟨((KeepsOthers.setCell _ ⟨lb, 0, none⟩ (.int .i64 (x.1 : Nat))).trans (KeepsOthers.setCell _ ⟨nb, 0, none⟩ (.int .i64 ((pre.length : Int) + 1)))).from _, Kc.trans (Kc.of_kp (Kp.setCell _ ⟨lb, 0, none⟩ _) (by have := HNL.out; have := HS1.out; simp; omega)) (Kc.of_kp (Kp.setCell _ ⟨nb, 0, none⟩ _) (by have := HS1.out; simp; omega)), ⟨?_, ?_⟩, LV2.out, LB2.out⟩
                  · rw [List.length_append]; simpa using HN2.out
                  · rw [lastOf_snoc]; exact HL2.out
              · have HP := hid (show ¬ pre ++ [x] <+: tkp T 16 from fun hp => by
                  have := next_of (n := n) HD.out.wf hp
                  unfold Nx at this
                  rw [HX.out.1, HX.out.2.1, HX.out.2.2] at this
                  exact hgood this)
                by_cases g1 : (x.1 : Int) ≤ La
                · gi_wp2_with (gi_at_call 25; refine cr.mono ?_; rintro e w' ⟨rfl, rfl⟩)
                  exact ⟨(KeepsOthers.setCell _ _ _).from _, .inr ⟨rfl, HP.out⟩⟩
                · cases bv with
                  | false =>
                    gi_wp2_with (gi_at_call 25; refine cr.mono ?_; rintro e w' ⟨rfl, rfl⟩)
                    exact ⟨(KeepsOthers.setCell _ _ _).from _, .inr ⟨rfl, HP.out⟩⟩
                  | true =>
                    have gx : (x.2 != vv) = true := by
                      simp only [bne_iff_ne]
                      intro e
                      exact hgood ⟨by omega, rfl, e.symm⟩
                    gi_wp2_with (gi_at_call 25; refine cr.mono ?_; rintro e w' ⟨rfl, rfl⟩)
                    exact ⟨(KeepsOthers.setCell _ _ _).from _, .inr ⟨rfl, HP.out⟩⟩
            case done =>
              rintro D ys W hD hys ⟨⟨hn, -⟩, hLive, hLb⟩ hK
              rw [hys, HC.out] at hn
              have c1 := cell_one hLb.lv
              have c4 := cell_one hLb.turn
              have c5 := cell_one hn
              have HLBB := hid hLb
              have HLI := hid hLive
              have HK := hid hK
              clear hLb hK hn hLive
              by_cases htz : t = 0
              · have tz : ((t : Int) == 0) = true := by rw [htz]; rfl
                have tz1 : ((t : Int) == 1) = false := by rw [htz]; rfl
                clear htz
                gi_wp2
                refine ⟨⟨t + 1, W.heap.size, D :: Ds, _, _, _, _, _, _, _, _, _, _, _, _, _, _, _, _, _, _, _, _, _, _, _, _, _, _, _, _, _, by omega, by simp [HDS.out], by have := lt_of_block HLBB.out.it; omega, rfl, (HLI.out.alloc _).more ((Below.heap_alloc _ _ _ (lt_of_block HK.out)).trans HK.out) (fun E hE => by have := DL.out E hE; omega) (by omega), ?_⟩, by simp [marks, HDS.out]; omega⟩
                have := HLBB.out.next ((t : Int) + 1)
                simpa using this
              · have tz : ((t : Int) == 0) = false := by rw [beq_eq_false_iff_ne]; omega
                have tz1 : ((t : Int) == 1) = true := by rw [beq_iff_eq]; omega
                clear htz
                gi_wp2
                refine ⟨⟨t + 1, W.heap.size, D :: Ds, _, _, _, _, _, _, _, _, _, _, _, _, _, _, _, _, _, _, _, _, _, _, _, _, _, _, _, _, _, by omega, by simp [HDS.out], by have := lt_of_block HLBB.out.it; omega, rfl, (HLI.out.alloc _).more ((Below.heap_alloc _ _ _ (lt_of_block HK.out)).trans HK.out) (fun E hE => by have := DL.out E hE; omega) (by omega), ?_⟩, by simp [marks, HDS.out]; omega⟩
                have := HLBB.out.next ((t : Int) + 1)
                simpa using this
            case stop =>
              rintro D cc pre W hD hSp hx hK
              rcases hx with ⟨rfl, htz, hn, hLive, hLb⟩ | ⟨rfl, hnp⟩
              · have c1 := cell_one hLb.lv
                have c4 := cell_one hLb.turn
                have c5 := cell_one hn
                have HLBB := hid hLb
                have HLI := hid hLive
                have HK := hid hK
                have tz : ((t : Int) == 0) = true := by rw [htz]; rfl
                have tz1 : ((t : Int) == 1) = false := by rw [htz]; rfl
                clear hLb hK hn hLive htz
                by_cases hll : leave = (c : Int)
                · have tn : (leave != (c : Int)) = false := by simp [hll]
                  clear hll
                  gi_wp2
                  refine ⟨⟨t + 1, W.heap.size, D :: Ds, _, _, _, _, _, _, _, _, _, _, _, _, _, _, _, _, _, _, _, _, _, _, _, _, _, _, _, _, _, by omega, by simp [HDS.out], by have := lt_of_block HLBB.out.it; omega, rfl, (HLI.out.alloc _).more ((Below.heap_alloc _ _ _ (lt_of_block HK.out)).trans HK.out) (fun E hE => by have := DL.out E hE; omega) (by omega), ?_⟩, by simp [marks, HDS.out]; omega⟩
                  have := HLBB.out.next ((t : Int) + 1)
                  simpa using this
                · have tn : (leave != (c : Int)) = true := by simp [hll]
                  clear hll
                  gi_wp2
                  refine ⟨⟨t + 1, W.heap.size, D :: Ds, _, _, _, _, _, _, _, _, _, _, _, _, _, _, _, _, _, _, _, _, _, _, _, _, _, _, _, _, _, by omega, by simp [HDS.out], by have := lt_of_block HLBB.out.it; omega, rfl, (HLI.out.alloc _).more ((Below.heap_alloc _ _ _ (lt_of_block HK.out)).trans HK.out) (fun E hE => by have := DL.out E hE; omega) (by omega), ?_⟩, by simp [marks, HDS.out]; omega⟩
                  have := HLBB.out.next ((t : Int) + 1)
                  simpa using this
              · exact absurd hSp hnp
end Go.Proofs.Ytaofpijcjohnhaa
