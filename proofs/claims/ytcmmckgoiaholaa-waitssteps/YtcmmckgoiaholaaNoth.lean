/- nothing: of a list that is not there. -/
import Derived.Test.YtcmmckgoiaholaaKnown
namespace Go.Proofs.Ytcmmckgoiaholaa
open Go.RowKit Go.Shelf Go.Lib Go.Sort Go.Maps
attribute [local go_sem] Oper.semAt_some

theorem Zw.vw {w : World} {p : Option Addr} (h : Zw w p) : Vw w p [] := .inr ⟨h, rfl⟩
theorem ord_nil : ordL [] = [] := by rw [ordL_eq]; rfl
theorem fst_nil : fstT [] = 0 ∧ fstB [] = false := fst_eq [] [] rfl 0 false rfl rfl
set_option maxRecDepth 100000 in
theorem zput (w : World) (p : Option Addr) (t q : Int) (h : Zw w p) : Calls Try.prog 14 #[.pointer p, .int .i64 t, .int .i64 q] w fun e w' => e = .returned (.int .i64 1) ∧ w' = w := by
  have H := hid h
  clear h
  go_enter Try.func14, Try.ntmps14
  go_wp2_with (go_at_call 38; refine (zero_yes w p H.out).mono ?_; rintro e w1 ⟨rfl, rfl⟩)
  go_ret
  exact ⟨rfl, rfl⟩
set_option maxRecDepth 100000 in
theorem zchg (w : World) (p : Option Addr) (t q : Int) (h : Zw w p) : Calls Try.prog 15 #[.pointer p, .int .i64 t, .int .i64 q] w fun e w' => e = .returned (.int .i64 1) ∧ w' = w := by
  have H := hid h
  clear h
  go_enter Try.func15, Try.ntmps15
  go_wp2_with (go_at_call 38; refine (zero_yes w p H.out).mono ?_; rintro e w1 ⟨rfl, rfl⟩)
  go_ret
  exact ⟨rfl, rfl⟩
set_option maxRecDepth 100000 in
theorem zlv (w : World) (p : Option Addr) (t : Int) (h : Zw w p) : Calls Try.prog 16 #[.pointer p, .int .i64 t] w fun e w' => e = .returned (.int .i64 1) ∧ w' = w := by
  have H := hid h
  clear h
  go_enter Try.func16, Try.ntmps16
  go_wp2_with (go_at_call 38; refine (zero_yes w p H.out).mono ?_; rintro e w1 ⟨rfl, rfl⟩)
  go_ret
  exact ⟨rfl, rfl⟩
theorem zfirst (w : World) (p : Option Addr) (h : Zw w p) : Calls Try.prog 30 #[.pointer p] w fun e w' => e = .returned (.tuple #[.int .i64 0, .bool false]) ∧ Kp w w' [] := by
  have := first_any w p [] h.vw
  rw [fst_nil.1, fst_nil.2] at this
  exact this
set_option maxRecDepth 100000 in
theorem ztake (w : World) (p : Option Addr) (h : Zw w p) : Calls Try.prog 19 #[.pointer p] w fun e w' => e = .returned (.tuple #[.int .i64 0, .bool false]) ∧ Kp w w' [] := by
  have H := hid (zfirst w p h)
  clear h
  go_enter Try.func19, Try.ntmps19
  go_wp2_with fail
  refine H.out.mono ?_
  rintro e w1 ⟨rfl, hk⟩
  have HK := hid hk
  clear hk
  go_wp2
  go_ret2
  exact ⟨rfl, HK.out⟩
theorem zlist (w : World) (p : Option Addr) (h : Zw w p) : Calls Try.prog 32 #[.pointer p] w fun e w' => ∃ v, e = .returned v ∧ Ns w' w.heap.size v [] ∧ Kp w w' [] := by
  have := list_any w p [] h.vw
  rw [ord_nil] at this
  exact this
set_option maxRecDepth 100000 in
theorem zclear (w : World) (p : Option Addr) (h : Zw w p) : Calls Try.prog 20 #[.pointer p] w fun e w' => ∃ ao cap, e = .returned (.slice ao 0 cap) ∧ Kp w w' [] := by
  have H := hid (zlist w p h)
  clear h
  go_enter Try.func20, Try.ntmps20
  go_wp2_with fail
  refine H.out.mono ?_
  rintro e w1 ⟨v, rfl, hn, hk⟩
  obtain ⟨ao, cap, hv⟩ := hn.slice
  rw [show ([] : List Int).length = 0 from rfl] at hv
  subst hv
  have HK := hid hk
  clear hk hn
  go_wp2_with fail
  go_loopw [10] (fun vi wr => vi = .int .i64 0 ∧ wr = w1) (fun _ _ => 0)
  case atStart => exact ⟨rfl, rfl⟩
  case round =>
    obtain ⟨rfl, rfl⟩ := hrel
    go_wp2
    go_ret
    exact ⟨_, _, rfl, HK.out⟩
theorem fn_not_nil (b : Nat) (W : World) : (binOp .eql 63 (itv b) .nilFunc).run Try.prog W = .ok (.bool false) W := by kernel_rfl
/-- What nothing keeps. -/
structure Nb (w W : World) : Prop where
  b : W.heap[w.heap.size]? = some (.cells #[.bool false] 4 (0, 0))
  be : Below w.heap.size w W
theorem Nb.keep {w W W' : World} (h : Nb w W) (hk : Kp W W' []) : Nb w W' := ⟨(hk.block _ (lt_of_block h.b) (by simp)).trans h.b, ((Kp.of_below h.be).trans hk).below⟩
theorem Nb.zw {w W : World} (h : Nb w W) {p : Option Addr} (hz : Zw w p) : Zw W p := hz.keep (Kp.of_below h.be)
set_option maxRecDepth 100000 in
set_option maxHeartbeats 4000000 in
theorem nothing_any (w : World) (p : Option Addr) (h : Zw w p) : Calls Try.prog 21 #[.pointer p] w fun e w' => e = .returned (.bool true) ∧ Kp w w' [] := by
  have H := hid h
  clear h
  refine (callsIn_wide (n := 6)).1 ?_
  have h1 : 1 ≤ 6 := by decide
  refine callsIn_of_wp_marks Try.func21 rfl trivial ?_ rfl
  simp only [Try.ntmps21, List.size_toArray, List.length_cons, List.length_nil, Nat.reduceAdd, Nat.reduceSub, Array.replicate_succ, Array.replicate_zero, List.push_toArray, List.append_toArray, List.nil_append, List.cons_append]
  refine wpIn_wide.2 ?_
  go_wp2_with fail
  have N0 := hid (show Nb w (w.alloc (.cells #[.bool false] 4)) from ⟨heap_alloc_new w _, (Kp.alloc w _ []).below⟩)
  refine (zfirst _ p (N0.out.zw H.out)).mono ?_
  rintro e w1 ⟨rfl, hk⟩
  have N1 := hid (N0.out.keep hk)
  clear hk N0
  go_wp2_with fail
  refine (ztake _ p (N1.out.zw H.out)).mono ?_
  rintro e w2 ⟨rfl, hk⟩
  have N2 := hid (N1.out.keep hk)
  clear hk N1
  go_wp2_with fail
  refine (prio_any _ p [] 0 (N2.out.zw H.out).vw (by constructor <;> omega)).mono ?_
  rintro e w3 ⟨rfl, hw⟩
  have N3 := hid (show Nb w w3 by rw [hw]; exact N2.out)
  rw [show getP [] 0 = 0 from rfl, show hasP [] 0 = false from rfl]
  clear hw N2
  go_wp2_with fail
  refine (all_any _ p).mono ?_
  rintro e w4 ⟨rfl, hw⟩
  have N4 := hid (show Nb w w4 by rw [hw]; exact N3.out.keep (Kp.alloc _ _ _))
  have HI := hid (show It w4 w3.heap.size [] by rw [hw]; exact It.new (N3.out.zw H.out).vw)
  obtain ⟨x, hx⟩ : ∃ x, w3.heap.size = x := ⟨_, rfl⟩
  rw [hx] at HI ⊢
  have hq := fn_not_nil x
  clear hw hx N3
  go_wp2_with fail
  have hseq := it_seqs 5 (by decide) x [] w4 HI.out
  rw [ord_nil] at hseq
  refine (wpIn_wide (n := 6)).1 ?_
  refine range_seqs (K := Kc w4.heap.size) h1 (gf := 48) (lb := #[.pointer (some ⟨x, 0, none⟩)]) rfl (enters_of Try.func48 (by kernel_rfl) rfl)
    hseq Kc.trans (kc_put _) (kc_alloc _) (Below.refl _ _) (fun _ => rfl)
    (fun _ W => Nb w W) (fun _ _ _ => False)
    (fun s A B row hs hg hr => ?own)
    (fun cc s A B row hs hg hr => hs)
    N4.out (fun _ => .cells #[] 66) (fun _ _ => { tmps := #[], defers := [] })
    ?assign ?body ?done ?stop
  case own => exact ⟨cells_kept hs.b hg hr, ownFrom_below (β := List Dl) (Nat.le_refl _) (by have := N4.out.be.size; omega) s A B row hs.be hg hr⟩
  case assign =>
    intro l d W K hd hK
    simp at hd
  case body =>
    rintro l pre d b W hpre
    obtain ⟨t, ht⟩ := hpre
    simp at ht
  case stop =>
    rintro E cc pre W hE hpre hf hK
    exact hf.elim
  case done =>
    rintro E W hE hN hK
    have N5 := hid hN
    have HE := hid (And.intro hE hK)
    clear hN hE hK hseq
    gi_wp2
    go_wp2_with (go_at_call 13; go_in)
    refine (zput _ p 1 1 (N5.out.zw H.out)).mono ?_
    rintro e w6 ⟨rfl, hw⟩
    have N6 := hid (show Nb w w6 by rw [hw]; exact N5.out)
    have E6 := hid (show w6.heap[E]? = some (.deferred (some [])) by rw [hw]; exact HE.out.2)
    clear hw
    go_wp2_with (go_at_call 13; go_in)
    refine (zchg _ p 1 1 (N6.out.zw H.out)).mono ?_
    rintro e w7 ⟨rfl, hw⟩
    have N7 := hid (show Nb w w7 by rw [hw]; exact N6.out)
    have E7 := hid (show w7.heap[E]? = some (.deferred (some [])) by rw [hw]; exact E6.out)
    clear hw
    go_wp2_with (go_at_call 13; go_in)
    refine (zlv _ p 1 (N7.out.zw H.out)).mono ?_
    rintro e w8 ⟨rfl, hw⟩
    have N8 := hid (show Nb w w8 by rw [hw]; exact N7.out)
    have E8 := hid (show w8.heap[E]? = some (.deferred (some [])) by rw [hw]; exact E7.out)
    clear hw
    go_wp2_with (go_at_call 13; go_in)
    refine (has_any _ p [] 1 (N8.out.zw H.out).vw (by constructor <;> omega)).mono ?_
    rintro e w9 ⟨rfl, hw⟩
    rw [show hasP [] 1 = false from rfl]
    have N9 := hid (show Nb w w9 by rw [hw]; exact N8.out)
    have E9 := hid (show w9.heap[E]? = some (.deferred (some [])) by rw [hw]; exact E8.out)
    clear hw
    go_wp2_with (go_at_call 13; go_in)
    refine (len_any _ p [] (N9.out.zw H.out).vw).mono ?_
    rintro e w10 ⟨rfl, hw⟩
    rw [show ((([] : List Dl).length : Nat) : Int) = 0 from rfl]
    have N10 := hid (show Nb w w10 by rw [hw]; exact N9.out)
    have E10 := hid (show w10.heap[E]? = some (.deferred (some [])) by rw [hw]; exact E9.out)
    clear hw
    go_wp2_with (go_at_call 13; go_in)
    refine (zlist _ p (N10.out.zw H.out)).mono ?_
    rintro e w11 ⟨v, rfl, hn, hk⟩
    obtain ⟨ao, cap, hv⟩ := hn.slice
    rw [show ([] : List Int).length = 0 from rfl] at hv
    subst hv
    have N11 := hid (N10.out.keep hk)
    have E11 := hid (show w11.heap[E]? = some (.deferred (some [])) from (hk.block E (lt_of_block E10.out) (by simp)).trans E10.out)
    clear hk hn
    go_wp2_with (go_at_call 13; go_in)
    refine (zclear _ p (N11.out.zw H.out)).mono ?_
    rintro e w12 ⟨ao2, cap2, rfl, hk⟩
    have N12 := hid (N11.out.keep hk)
    have E12 := hid (show w12.heap[E]? = some (.deferred (some [])) from (hk.block E (lt_of_block E11.out) (by simp)).trans E11.out)
    clear hk
    go_wp2_with (go_at_call 13; go_in)
    refine (zcopy _ p (N12.out.zw H.out)).mono ?_
    rintro e w13 ⟨rfl, hw⟩
    have N13 := hid (show Nb w w13 by rw [hw]; exact N12.out)
    have E13 := hid (show w13.heap[E]? = some (.deferred (some [])) by rw [hw]; exact E12.out)
    clear hw
    go_wp2_with (go_at_call 13; go_in)
    refine (same_zeros _ p none (N13.out.zw H.out) (.inl rfl)).mono ?_
    rintro e w14 ⟨rfl, hw⟩
    have N14 := hid (show Nb w w14 by rw [hw]; exact N13.out)
    have E14 := hid (show w14.heap[E]? = some (.deferred (some [])) by rw [hw]; exact E13.out)
    have hEE := HE.out.1
    have hlo : w.heap.size < E := by
      have := lt_of_block N4.out.b
      omega
    have u0 := cell_one N14.out.b
    have f0 := free_one N14.out.b
    clear hw
    go_wp2
    refine ⟨by simp, .inl ⟨_, _, rfl, run_takeDeferred (show (w14.setCell ⟨w.heap.size, 0, none⟩ (.bool true)).heap[E]? = some (.deferred (some [])) from (Below.heap_setCell _ _ _ _ (by simp; omega)).trans E14.out), ?_⟩⟩
    have c0 := cell_one ((World.putObj_heap_other (o := .deferred none) (show w.heap.size ≠ E by omega)).trans (set_one (x := .bool true) N14.out.b))
    refine ⟨.bool true, by simp [results, go_sem, c0], rfl, ?_⟩
    have hk := (Kp.of_below N14.out.be).past (Kp.setCell w14 ⟨w.heap.size, 0, none⟩ (.bool true)) (by intro k hk hl; simp at hk; omega)
    exact ⟨hk.os, hk.tape, hk.output, by have := hk.size; simp [World.putObj] at this ⊢; exact this, fun k hk' _ => (World.putObj_heap_other (by omega)).trans (hk.block k hk' (by simp))⟩
end Go.Proofs.Ytcmmckgoiaholaa
