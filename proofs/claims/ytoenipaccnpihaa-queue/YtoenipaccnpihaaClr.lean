/- All of none. Clear. -/
import Derived.LoopIn
import Derived.Test.YtoenipaccnpihaaAll
import Derived.Test.YtoenipaccnpihaaKw
namespace Go.Proofs.Ytoenipaccnpihaa
open Go.RowKit Go.Shelf Go.Sort Go.Maps
open Go.Lib hiding intOf
attribute [local go_sem] Oper.semAt_some

set_option maxRecDepth 100000 in
set_option maxHeartbeats 2000000 in
/-- All's function, of none. -/
theorem it_zero (n : Nat) (hn : 1 ≤ n) (x y : Nat) (p : Option Addr) (t : Int) (w : World) (h : It w x y p t) (hs : Zs w p) :
    Seqs n Try.prog 51 #[.pointer (some ⟨x, 0, none⟩), .pointer (some ⟨y, 0, none⟩)] encY (Kc w.heap.size y) [] w := by
  intro l J Jx W hW hJ hJx hY h0
  have hi := h.keep (Kp.of_below hW)
  have cx := cell_one hi.px
  have cy := cell_one hi.ty
  have HCp := (callsIn_wide (n := n - 1)).2 (copy_zero W p (hs.keep (Kp.of_below hW)))
  have HX := hid (fun (z : World) => (callsIn_wide (n := n - 1)).2 (next_zero z none t W32 (by decide) (.inl rfl)))
  have HXY := hid (show ∀ z, Kp W z [] → It z x y p t from fun z hz => hi.keep hz)
  have H0 := hid (show ∀ z, Kp W z [] → J [] z from fun z hz => hJ [] W z h0 (Low.of_kp hz (by simp)))
  have hf16 : Fence.wide.fn 16 := trivial
  have hf29 : Fence.wide.fn 29 := trivial
  clear hW hJ hJx hY h0 h hi hs
  show CallsIn Fence.wide n Try.prog 51 #[.func (.yield l) #[] #[], .pointer (some ⟨x, 0, none⟩), .pointer (some ⟨y, 0, none⟩)] W _
  refine callsIn_of_wp Try.func51 rfl trivial ?_ rfl
  simp only [Try.ntmps51, List.size_toArray, List.length_cons, List.length_nil, Nat.reduceAdd, Nat.reduceSub, Array.replicate_succ, Array.replicate_zero, List.push_toArray, List.append_toArray, List.nil_append, List.cons_append]
  gi_wp2_with (gi_at_call 29; refine HCp.mono ?_; rintro e w1 ⟨rfl, hk1⟩; have HK := hid hk1; clear hk1)
  gi_loopw [5] (fun _ wr => Hid (Kp W wr [])) (fun _ _ => 0)
  case atStart => exact HK
  case round =>
    have cy := cell_one (HXY.out wr hrel.out).ty
    have HXn := HX.out wr
    unfold Sv at HXn
    have HXn := hid HXn
    gi_wp2_with (gi_at_call 16; refine HXn.out.mono ?_; rintro e w2 ⟨rfl, hk2⟩; have HK2 := hid ((hrel.out.trans hk2).trans (Kp.alloc w2 (.cells #[.int .i64 0, .int .i64 0] 47) [])); clear hk2)
    gi_wp2
    refine ⟨fun f h => (by cases h), ?_⟩
    gi_wp2
    refine bodyPost_ret (results_none rfl _ _ _) rfl ?_
    exact ⟨⟨_, rfl⟩, .inl (H0.out _ HK2.out)⟩
/-- The blocks from one on. -/
def above (A : World) (B : Nat) : List Nat := (List.range A.heap.size).filter fun k => decide (B ≤ k)
theorem Low.rows {B : Nat} {A C : World} (h : Low B A C) : Kp A C (above A B) := ⟨h.os, h.tape, h.output, h.size, fun k hk hm => h.block k hk (by
  unfold above at hm
  simp at hm
  exact hm hk)⟩
theorem Sg.low {B : Nat} {A C : World} {sb : Nat} {R : List Nat} {T S : Nat} {M : Nat → Nat} {L : El} (h : Sg A sb R T S M L) (hl : Low B A C) (hB : ∀ k ∈ R, k < B) : Sg C sb R T S M L := h.keep hl.rows (fun k hk hm => by
  have := hB k hk
  unfold above at hm
  simp at hm
  omega)
theorem count_or {α : Type} (p q r : α → Bool) (h : ∀ x, r x = true → p x = true ∨ q x = true) : ∀ l : List α, l.countP r ≤ l.countP p + l.countP q
  | [] => by simp
  | x :: l => by
    have ih := count_or p q r h l
    have hx := h x
    simp only [List.countP_cons]
    cases hr : r x <;> cases hp : p x <;> cases hq : q x <;> simp_all <;> omega
theorem count_code (L : El) (h1 : ∀ m, L.countP (fun x => (x.1 * 32 + x.2.1 == m) && decide (x.2.1 < 16)) ≤ 1) : ∀ K, L.countP (fun x => decide (x.1 * 32 + x.2.1 < K) && decide (x.2.1 < 16)) ≤ K
  | 0 => by simp
  | K + 1 => by
    have ih := count_code L h1 K
    have := h1 K
    have := count_or (fun x : Nat × Nat × Int => decide (x.1 * 32 + x.2.1 < K) && decide (x.2.1 < 16)) (fun x => (x.1 * 32 + x.2.1 == K) && decide (x.2.1 < 16)) (fun x => decide (x.1 * 32 + x.2.1 < K + 1) && decide (x.2.1 < 16)) (fun x hx => by
      simp at hx ⊢
      omega) L
    omega
theorem Ok.size {T S : Nat} {L : El} (h : Ok T S L) (hT : T ≤ 16) (hS : S ≤ 32) : L.length ≤ 600 := by
  have h1 : L.countP (fun x => decide (x.1 * 32 + x.2.1 < 512) && decide (x.2.1 < 16)) ≤ 512 := count_code L (fun m => by
    by_cases hm : m % 32 < 16
    · have := h.one (m / 32) (m % 32) hm
      unfold q at this
      rw [List.length_map, ← List.countP_eq_length_filter] at this
      refine Nat.le_trans (List.countP_mono_left fun x hx hp => ?_) this
      have := h.inn x hx
      simp at hp ⊢
      omega
    · rw [List.countP_eq_zero.2 (fun x hx hp => by
        have := h.inn x hx
        simp at hp
        omega)]
      omega) 512
  have h2 := count_or (fun x : Nat × Nat × Int => decide (16 ≤ x.2.1)) (fun x => decide (x.2.1 < 16)) (fun _ => true) (fun x _ => by simp; omega) L
  rw [List.countP_true] at h2
  have h3 : L.countP (fun x => decide (x.2.1 < 16)) ≤ L.countP (fun x => decide (x.1 * 32 + x.2.1 < 512) && decide (x.2.1 < 16)) := List.countP_mono_left fun x hx hp => by
    have := h.inn x hx
    simp at hp ⊢
    omega
  have h4 := h.few
  unfold used at h4
  omega
theorem allV_len (T : Nat) (L : El) (t : Int) : (allV T L t).length ≤ L.length := by
  unfold allV
  split
  · have := allP_len t.toNat L.length L (Nat.le_refl _)
    omega
  · simp
theorem fin20 (W : World) (E : Nat) (k : Int) (Rz : World → Prop) (u : Array Value) (hk : u[4]? = some (.int .i64 k)) (hz : u[5]? = some (.int .i64 0)) (hE : W.heap[E]? = some (.deferred (some []))) (hR : Rz (W.putObj E (.deferred none))) :
    bodyPostM Fence.wide 6 Try.prog Try.f20 (fun e w' => e = .returned (.tuple #[.int .i64 k, .int .i64 0]) ∧ Rz w') .ret { tmps := u, defers := [{ target := .collected E, args := #[] }] } W := by
  refine ⟨by simp, .inl ⟨_, _, rfl, run_takeDeferred hE, ?_⟩⟩
  refine ⟨.tuple #[.int .i64 k, .int .i64 0], ?_, rfl, hR⟩
  simp [results, go_sem, hk, hz]
theorem set_one {w : World} {b : Nat} {v x : Value} {t : TypeId} (h : w.heap[b]? = some (.cells #[v] t (0, 0))) : (w.setCell ⟨b, 0, none⟩ x).heap[b]? = some (.cells #[x] t (0, 0)) := by
  rw [heap_setCell_same w b 0 _ t x h]
  rfl
theorem free_one {w : World} {b : Nat} {v : Value} {t : TypeId} (h : w.heap[b]? = some (.cells #[v] t (0, 0))) : w.frozen? ⟨b, 0, none⟩ = false := by simp [World.frozen?, h]
/-- Clear under way: the boxes, what was told, what is left. -/
structure Cz (w W : World) (sb : Nat) (R : List Nat) (T S : Nat) (M : Nat → Nat) (L : El) (t : Nat) (pre : Gl) : Prop where
  sg : ∃ Lk, Sg W sb R T S M Lk ∧ pre ++ allV T Lk t = allV T L t ∧ leftV T Lk t = leftV T L t
  b0 : W.heap[w.heap.size]? = some (.cells #[.pointer (some ⟨sb, 0, none⟩)] 24 (0, 0))
  b1 : W.heap[w.heap.size + 1]? = some (.cells #[.int .i64 t] 3 (0, 0))
  b2 : W.heap[w.heap.size + 2]? = some (.cells #[.int .i64 (pre.length : Nat)] 3 (0, 0))
  kp : Kp w W R
theorem Cz.low {w A C : World} {sb : Nat} {R : List Nat} {T S : Nat} {M : Nat → Nat} {L : El} {t : Nat} {pre : Gl} (h : Cz w A sb R T S M L t pre) {B : Nat} (hl : Low B A C) (hR : ∀ k ∈ R, k < B) (hB : w.heap.size + 3 ≤ B) : Cz w C sb R T S M L t pre := by
  obtain ⟨⟨Lk, h1, h2, h3⟩, b0, b1, b2, kp⟩ := h
  exact ⟨⟨Lk, h1.low hl hR, h2, h3⟩, (hl.block _ (lt_of_block b0) (by omega)).trans b0, (hl.block _ (lt_of_block b1) (by omega)).trans b1, (hl.block _ (lt_of_block b2) (by omega)).trans b2, hl.os.trans kp.os, hl.tape.trans kp.tape, hl.output.trans kp.output, Nat.le_trans kp.size hl.size, fun k hk hm => (hl.block k (by have := kp.size; omega) (by omega)).trans (kp.block k hk hm)⟩
set_option maxRecDepth 100000 in
set_option maxHeartbeats 2000000 in
theorem clear_yes (w : World) (sb : Nat) (R : List Nat) (T S : Nat) (M : Nat → Nat) (L : El) (t : Nat) (h : Sg w sb R T S M L) (ht : t < T) : Calls Try.prog 20 #[.pointer (some ⟨sb, 0, none⟩), .int .i64 t] w fun e w' => e = .returned (.tuple #[.int .i64 ((allV T L t).length : Nat), .int .i64 0]) ∧ To w w' sb R T S (upd M t 0) (leftV T L t) := by
  have HR := hid (fun z (hz : Kp w z []) => ref_any z sb R T S M L t (h.same hz))
  rw [show refE T t = 0 by simp [refE, inT_nat, ht]] at HR
  have hT := h.bd.1.2
  have hlen : (allV T L t).length ≤ 600 := Nat.le_trans (allV_len T L t) (h.ok.size h.bd.1.2 h.bd.2.2)
  have HL := hid hlen
  have hRl := h.lt
  have HRl := hid hRl
  have HSM := hid (fun z (hz : Kp w z []) => (h.same hz).setM (t := t) (x := 0) (by omega) (by omega))
  have HS := hid (fun W x y (hI : It W x y (some ⟨sb, 0, none⟩) t) (hs : Sg W sb R T S (upd M t 0) L) => it_seqs 5 (by decide) x y sb R T S (upd M t 0) L t W hI hs)
  have HM := hid h.mem
  obtain ⟨c0, f0⟩ : (∀ z, Kp w z [] → ∃ v, z.cell? ⟨sb, 2 + t, none⟩ = some v) ∧ ∀ z, Kp w z [] → z.frozen? ⟨sb, 2 + t, none⟩ = false := by
    obtain ⟨mb, g, cap, h⟩ := h
    exact ⟨fun z hz => ⟨_, (h.c.keep hz (by simp)).ms (t := t) (by omega)⟩, fun z hz => (h.c.keep hz (by simp)).free (2 + t)⟩
  have C0 := hid c0
  have F0 := hid f0
  have ht16 : t < 16 := by omega
  have ht16i : (t : Int) < 16 := by omega
  clear h c0 f0 hlen hRl
  refine (callsIn_wide (n := 6)).1 ?_
  have h1 : 1 ≤ 6 := by decide
  refine callsIn_of_wp_marks Try.func20 rfl trivial ?_ rfl
  simp only [Try.ntmps20, List.size_toArray, List.length_cons, List.length_nil, Nat.reduceAdd, Nat.reduceSub, Array.replicate_succ, Array.replicate_zero, List.push_toArray, List.append_toArray, List.nil_append, List.cons_append]
  refine wpIn_wide.2 ?_
  go_wp2_with fail
  obtain ⟨W0, hW0⟩ : ∃ W0, (w.alloc (.cells #[.pointer (some ⟨sb, 0, none⟩)] 24)).alloc (.cells #[.int .i64 t] 3) = W0 := ⟨_, rfl⟩
  have hsz : W0.heap.size = w.heap.size + 2 := by rw [← hW0]; simp
  have k0 : Kp w W0 [] := by rw [← hW0]; exact (Kp.alloc w _ []).trans (Kp.alloc _ _ [])
  have hb0 : W0.heap[w.heap.size]? = some (.cells #[.pointer (some ⟨sb, 0, none⟩)] 24 (0, 0)) := by rw [← hW0]; exact (Below.heap_alloc _ _ _ (by simp)).trans (heap_alloc_new w _)
  have hb1 : W0.heap[w.heap.size + 1]? = some (.cells #[.int .i64 t] 3 (0, 0)) := by rw [← hW0]; exact alloc_snd w _ _
  rw [hW0] at *
  clear hW0
  have HB := hid (And.intro hb0 (And.intro hb1 (And.intro k0 hsz)))
  refine (HR.out W0 k0).mono ?_
  rintro e w1 ⟨rfl, hw⟩; obtain rfl := hw.symm
  clear HR
  obtain ⟨vm, hvm⟩ := C0.out W0 k0
  have hfz := F0.out W0 k0
  have hsb := HRl.out _ HM.out
  have u0 := cell_one hb0
  have u1 := cell_one hb1
  clear hb0 hb1 k0 hsz
  go_wp2_with fail
  go_region
  have HSG := hid (show Sg (W0.setCell ⟨sb, 2 + t, none⟩ (.int .u32 0)).drew sb R T S (upd M t 0) L from (HSM.out W0 HB.out.2.2.1).same (Kp.drew _ _))
  have HKP := hid (show Kp w (W0.setCell ⟨sb, 2 + t, none⟩ (.int .u32 0)).drew R from (HB.out.2.2.1.nil.trans ((Kp.setCell W0 ⟨sb, 2 + t, none⟩ (.int .u32 0)).mono (by intro k hk _; simp at hk; subst hk; exact HM.out))).trans (Kp.drew _ _))
  have hz1 : (W0.setCell ⟨sb, 2 + t, none⟩ (.int .u32 0)).drew.heap.size = w.heap.size + 2 := by have := HB.out.2.2.2; simp [World.drew]; exact this
  have hb0 : (W0.setCell ⟨sb, 2 + t, none⟩ (.int .u32 0)).drew.heap[w.heap.size]? = some (.cells #[.pointer (some ⟨sb, 0, none⟩)] 24 (0, 0)) := (((Kp.setCell W0 ⟨sb, 2 + t, none⟩ (.int .u32 0)).trans (Kp.drew _ _)).block _ (lt_of_block HB.out.1) (by simp; omega)).trans HB.out.1
  have hb1 : (W0.setCell ⟨sb, 2 + t, none⟩ (.int .u32 0)).drew.heap[w.heap.size + 1]? = some (.cells #[.int .i64 t] 3 (0, 0)) := (((Kp.setCell W0 ⟨sb, 2 + t, none⟩ (.int .u32 0)).trans (Kp.drew _ _)).block _ (lt_of_block HB.out.2.1) (by simp; omega)).trans HB.out.2.1
  clear u0 u1 hvm hfz HSM C0 F0 HB
  generalize (W0.setCell ⟨sb, 2 + t, none⟩ (.int .u32 0)).drew = W1 at *
  have u0 := cell_one hb0
  have u1 := cell_one hb1
  have HB := hid (And.intro hb0 hb1)
  clear hb0 hb1
  go_wp2_with fail
  obtain ⟨W2, hW2⟩ : ∃ W2, W1.alloc (.cells #[.int .i64 0] 3) = W2 := ⟨_, rfl⟩
  have hk2 : Kp W1 W2 [] := by rw [← hW2]; exact Kp.alloc _ _ _
  have hb2 : W2.heap[w.heap.size + 2]? = some (.cells #[.int .i64 0] 3 (0, 0)) := by rw [← hW2, ← hz1]; exact heap_alloc_new W1 _
  have hz2 : W2.heap.size = w.heap.size + 3 := by rw [← hW2]; simp; omega
  rw [hW2]
  refine (all_any W2 (some ⟨sb, 0, none⟩) t).mono ?_
  rintro e w3 ⟨rfl, hw3⟩
  have HI := hid (show It w3 (w.heap.size + 3) (w.heap.size + 3 + 1) (some ⟨sb, 0, none⟩) t by rw [hw3, ← hz2]; exact It.new _ _ _)
  have hk3 : Kp W2 w3 [] := by rw [hw3]; exact (Kp.alloc _ _ _).trans (Kp.alloc _ _ _)
  have hz3 : w3.heap.size = w.heap.size + 5 := by rw [hw3]; simp; omega
  rw [hz2]
  have hk13 := hk2.trans hk3
  have HC0 := hid (show Cz w w3 sb R T S (upd M t 0) L t [] from ⟨⟨L, HSG.out.same hk13, rfl, rfl⟩, (hk13.block _ (lt_of_block HB.out.1) (by simp)).trans HB.out.1, (hk13.block _ (lt_of_block HB.out.2) (by simp)).trans HB.out.2, (hk3.block _ (lt_of_block hb2) (by simp)).trans hb2, HKP.out.trans hk13.nil⟩)
  have HSQ := hid (HS.out w3 (w.heap.size + 3) (w.heap.size + 3 + 1) HI.out (HSG.out.same hk13))
  have HZ3 := hid hz3
  clear hW2 hk2 hb2 hz2 hw3 HI hk3 hz3 hk13 HSG HKP HB HS u0 u1 hz1
  go_wp2_with fail
  have HRz := hid (show ∀ k ∈ R, k < w3.heap.size from fun k hk => by have := HRl.out k hk; have := HZ3.out; omega)
  refine (wpIn_wide (n := 6)).1 ?_
  refine range_seqs (K := Kc w3.heap.size (w.heap.size + 3 + 1)) h1 (gf := 51) (lb := #[.pointer (some ⟨w.heap.size + 3, 0, none⟩), .pointer (some ⟨w.heap.size + 3 + 1, 0, none⟩)]) rfl (enters_of Try.func51 (by kernel_rfl) rfl)
    HSQ.out Kc.trans (kc_put _ _) (kc_alloc _ _) (Below.refl _ _) (fun _ => rfl)
    (fun pre W => Cz w W sb R T S (upd M t 0) L t pre)
    (fun _ _ _ => False)
    (fun s A C hs hl => hs.low hl HRz.out (by have := HZ3.out; omega))
    (fun cc s A B row hs hg hr => hs)
    HC0.out
    (fun d => .cells #[.int .i64 (d.1 : Nat), .int .i64 d.2] 47)
    (fun d b => { tmps := #[.pointer (some ⟨sb, 0, none⟩), .int .i64 t, .pointer (some ⟨w.heap.size, 0, none⟩), .pointer (some ⟨w.heap.size + 1, 0, none⟩), .int .i64 0, .int .i64 0, .int .i64 0, .pointer (some ⟨w.heap.size + 2, 0, none⟩), .pointer (some ⟨b, 0, none⟩), .pointer (some ⟨sb, 0, none⟩), .int .i64 t, .int .i64 0, .int .i64 0, .bool false, undef, .pointer (some ⟨sb, 0, none⟩), .int .i64 t, .pointer (some ⟨sb, 0, none⟩), .pointer (some ⟨sb, 2, none⟩), .pointer (some ⟨sb, 2 + t, none⟩), .pointer (some ⟨sb, 0, none⟩), .int .i64 t, itv (w.heap.size + 3) (w.heap.size + 3 + 1), Sv d.1 d.2, undef, undef, undef, undef, undef, undef, undef, undef], defers := [] })
    ?assign ?body ?done ?stop
  case assign =>
    intro l d W K _ hK
    have HK := hid hK
    clear hK
    unfold encY Sv
    gi_wp2
    exact HK.out
  case body =>
    rintro l pre d b W hpre hbb hI hob
    obtain ⟨⟨Lk, hs, h2, h3⟩, b0, b1, b2, kp⟩ := hI
    have u0 := cell_one b0
    have u1 := cell_one b1
    have v0 := cell_two0 hob
    obtain ⟨tl, htl⟩ := hpre
    have hx : allV T Lk t = d :: tl := by
      have := h2.trans htl.symm
      rw [List.append_assoc] at this
      simpa using List.append_cancel_left this
    have hn : nxN T Lk t W32 ≤ 31 := by
      apply Classical.byContradiction
      intro hn
      rw [(allV_end hn).1] at hx
      cases hx
    obtain ⟨e1, e2, e3⟩ := allV_more hn
    rw [hx] at e1
    obtain ⟨hd, htl2⟩ := List.cons.inj e1
    have hd1 : d.1 = low Lk t W32 := by rw [hd, nx_every ht]
    have hlo : low Lk t W32 ≤ 31 := by rw [← nx_every ht]; exact hn
    have hnl : nxL T Lk t W32 = rm Lk t d.1 := by unfold nxL; rw [if_pos hn, hd, Int.toNat_natCast]
    rw [hnl] at e2 htl2
    have hq : q Lk t d.1 ≠ [] := by rw [hd1]; exact (low_some (by omega)).2.2.1
    have HTk := hid ((((callsIn_wide (n := 3)).2 (take_in W sb R T S (upd M t 0) Lk t d.1 hs hq))).inRound l)
    have hlp : pre.length < 600 := by
      have := congrArg List.length h2
      rw [List.length_append, hx] at this
      have := HL.out
      simp at *
      omega
    have hwr : IntKind.i64.wrap ((pre.length : Int) + 1) = (pre.length : Int) + 1 := IntWalk.i64_in _ ⟨by omega, by omega⟩
    have HN := hid (show ∀ w2, Ts W w2 sb R T S (upd M t 0) (rm Lk t d.1) → w2.heap[w.heap.size + 2]? = some (.cells #[.int .i64 (pre.length : Nat)] 3 (0, 0)) ∧ (KeepsFrom w3.heap.size W (w2.setCell ⟨w.heap.size + 2, 0, none⟩ (.int .i64 ((pre.length : Int) + 1))) ∧ Kc w3.heap.size (w.heap.size + 3 + 1) W (w2.setCell ⟨w.heap.size + 2, 0, none⟩ (.int .i64 ((pre.length : Int) + 1))) ∧ Cz w (w2.setCell ⟨w.heap.size + 2, 0, none⟩ (.int .i64 ((pre.length : Int) + 1))) sb R T S (upd M t 0) L t (pre ++ [d])) from fun w2 hT2 => by
      obtain ⟨hs2, hk2⟩ := hT2
      have hnr : ∀ k, w.heap.size ≤ k → k ∉ R := fun k hk hm => by have := HRl.out k hm; omega
      have hb2 := (hk2.block _ (lt_of_block b2) (hnr _ (by omega))).trans b2
      have ks := Kp.setCell w2 ⟨w.heap.size + 2, 0, none⟩ (.int .i64 ((pre.length : Int) + 1))
      have kk : Kp W (w2.setCell ⟨w.heap.size + 2, 0, none⟩ (.int .i64 ((pre.length : Int) + 1))) ((w.heap.size + 2) :: R) := (hk2.mono (by intro k hk _; simp [hk])).trans (ks.mono (by intro k hk _; simp at hk; simp [hk]))
      have hz := HZ3.out
      refine ⟨hb2, ⟨kk.size, fun k o hk ho _ => (kk.block k (lt_of_block ho) (fun hm => ?_)).trans ho⟩, Kc.of_kp kk (fun hm => ?_) (fun k hm hk => ?_), ⟨⟨rm Lk t d.1, hs2.keep ks (fun k hk hm => ?_), ?_, ?_⟩, ?_, ?_, ?_, ?_⟩⟩
      · rcases List.mem_cons.1 hm with rfl | hm
        · omega
        · have := HRl.out k hm; omega
      · rcases List.mem_cons.1 hm with e | hm
        · omega
        · exact hnr _ (by omega) hm
      · rcases List.mem_cons.1 hm with rfl | hm
        · omega
        · have := HRl.out k hm; omega
      · simp at hm
        subst hm
        exact hnr _ (by omega) hk
      · rw [← htl2, ← h2, hx]
        simp
      · rw [← e2]; exact h3
      · exact (ks.block _ (Nat.lt_of_lt_of_le (lt_of_block b0) hk2.size) (by simp)).trans ((hk2.block _ (lt_of_block b0) (hnr _ (by omega))).trans b0)
      · exact (ks.block _ (Nat.lt_of_lt_of_le (lt_of_block b1) hk2.size) (by simp)).trans ((hk2.block _ (lt_of_block b1) (hnr _ (by omega))).trans b1)
      · have := set_one (x := .int .i64 ((pre.length : Int) + 1)) hb2
        simpa using this
      · exact ⟨kk.os.trans kp.os, kk.tape.trans kp.tape, kk.output.trans kp.output, Nat.le_trans kp.size kk.size, fun k hk hm => (kk.block k (by have := kp.size; omega) (by simp; exact ⟨by omega, hm⟩)).trans (kp.block k hk hm)⟩)
    clear hs h2 h3 b0 b1 b2 kp htl hx hn e1 e2 e3 hd htl2 hd1 hlo hnl hq hlp hob
    have hf43 : Fence.wide.fn 43 := trivial
    gi_wp2_with (gi_at_call 43; refine HTk.out.mono ?_; rintro e w2 ⟨rfl, hT2⟩; have HN2 := hid (HN.out w2 hT2); have b2 := HN2.out.1; have u2 := cell_one b2; have f2 := free_one b2; clear hT2 b2)
    exact HN2.out.2
  case done =>
    rintro E W hE hI hK
    have b2 := cell_one hI.b2
    have HI := hid hI
    have HK := hid hK
    clear hI hK
    gi_wp2
    go_wp2
    refine fin20 W E _ (fun w' => To w w' sb R T S (upd M t 0) (leftV T L t)) _ rfl rfl HK.out ?_
    obtain ⟨⟨Lk, hs, h2, h3⟩, -, -, -, kp⟩ := HI.out
    have hx : allV T Lk t = [] := by simpa using h2
    have hn : ¬ nxN T Lk t W32 ≤ 31 := fun hn => by rw [(allV_more hn).1] at hx; cases hx
    have he := (allV_end hn).2
    rw [h3] at he
    rw [he]
    have kE : Kp W (W.putObj E (.deferred none)) [E] := ⟨rfl, rfl, rfl, by simp [World.putObj], fun k _ hm => World.putObj_heap_other (by simpa using hm)⟩
    refine ⟨R, hs.keep kE (fun k hk hm => ?_), Nw.refl _ _, kp.past kE (fun k hk hl => ?_)⟩
    · simp at hm
      subst hm
      have := HRz.out _ hk
      omega
    · simp at hk
      subst hk
      have := HZ3.out
      omega
  case stop =>
    rintro E cc pre W hE hpre hf hK
    exact hf.elim
set_option maxRecDepth 100000 in
theorem clear_no (w : World) (p : Option Addr) (t e : Int) (he : e ≠ 0) (hr : ∀ z, Kp w z [] → Calls Try.prog 44 #[.pointer p, .int .i64 t] z fun e' w' => e' = .returned (.int .i64 e) ∧ w' = z) : Calls Try.prog 20 #[.pointer p, .int .i64 t] w fun e' w' => e' = .returned (.tuple #[.int .i64 0, .int .i64 e]) ∧ Kp w w' [] := by
  have HR := hid hr
  have hne : ¬ e = 0 := he
  clear hr he
  go_enter Try.func20, Try.ntmps20
  go_wp2_with fail
  have k0 : Kp w ((w.alloc (.cells #[.pointer p] 24)).alloc (.cells #[.int .i64 t] 3)) [] := (Kp.alloc w _ []).trans (Kp.alloc _ _ [])
  refine (HR.out _ k0).mono ?_
  rintro e' w1 ⟨rfl, hw⟩; obtain rfl := hw.symm
  clear HR
  have K0 := hid k0
  clear k0
  go_wp2
  go_ret2
  exact ⟨rfl, K0.out⟩
theorem clear_zero (w : World) (p : Option Addr) (t : Int) (h : Zs w p) : Calls Try.prog 20 #[.pointer p, .int .i64 t] w fun e w' => e = .returned (.tuple #[.int .i64 0, .int .i64 1]) ∧ Kp w w' [] := clear_no w p t 1 (by decide) (fun z hz => ref_zero z p t (h.keep hz))
theorem clear_any : ClearOk := by
  intro w sb R T S M L t h
  unfold clN clE clM
  cases hb : inT T t with
  | false =>
    rw [if_neg (by simp), if_neg (by simp), if_neg (by simp)]
    have e : leftV T L t = L := by unfold leftV; rw [hb]; rfl
    rw [e]
    refine (clear_no w (some ⟨sb, 0, none⟩) t 2 (by decide) (fun z hz => by have := ref_any z sb R T S M L t (h.same hz); rwa [show refE T t = 2 by simp [refE, hb]] at this)).mono ?_
    rintro e w' ⟨rfl, hk⟩
    exact ⟨rfl, To.stay h hk⟩
  | true =>
    obtain ⟨k, rfl, hk⟩ := inT_yes hb
    rw [if_pos rfl, if_pos rfl, if_pos rfl]
    exact clear_yes w sb R T S M L k h hk
end Go.Proofs.Ytoenipaccnpihaa
