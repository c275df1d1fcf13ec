/- thenLetIn: all who may be are let in. -/
import Derived.Test.YtcfjlmkeomiiaaaLx
namespace Go.Proofs.Ytcfjlmkeomiiaaa
open Go.RowKit Go.Shelf Go.Lib Go.Sort Go.Maps
attribute [local go_sem] Oper.semAt_some

/-- What a call leaves that tells numbers: the lock, and they lie apart. -/
def Tl (w w' : World) (lb : Nat) (R : List Nat) (M : Lk) (x : Value) (l : List Int) : Prop := Ns w' w.heap.size x l ∧ ∃ R', Lc w' lb R' M ∧ Nw w R R' ∧ Kp w w' R ∧ ∀ g, x.ownBlock = some g → g ∉ R'
theorem Tl.to {w w' : World} {lb : Nat} {R : List Nat} {M : Lk} {x : Value} {l : List Int} (h : Tl w w' lb R M x l) : To w w' lb R M := by
  obtain ⟨-, R', h1, h2, h3, -⟩ := h
  exact ⟨R', h1, h2, h3⟩
theorem Tl.stay {w w' : World} {lb : Nat} {R : List Nat} {M : Lk} (h : Lc w lb R M) (hk : Kp w w' []) : Tl w w' lb R M (.slice none 0 0) [] := ⟨Ns.nil _ _, R, h.same hk, Nw.refl _ _, hk.nil, by simp [Value.ownBlock]⟩
theorem Tl.first {w0 w w' : World} {lb : Nat} {R : List Nat} {M : Lk} {x : Value} {l : List Int} (hk : Kp w0 w []) (h : Tl w w' lb R M x l) : Tl w0 w' lb R M x l := by
  obtain ⟨hn, R', h1, h2, h3, h4⟩ := h
  exact ⟨hn.low hk.size, R', h1, fun k hm => (h2 k hm).imp id (fun h => Nat.le_trans hk.size h), hk.nil.trans h3, h4⟩
/-- Behind another call. -/
theorem Tl.behind {w w1 w2 : World} {lb : Nat} {R : List Nat} {M1 M : Lk} {x : Value} {l : List Int} (h : To w w1 lb R M1) (h' : ∀ R1, Lc w1 lb R1 M1 → Tl w1 w2 lb R1 M x l) : Tl w w2 lb R M x l := by
  obtain ⟨R1, s1, n1, k1⟩ := h
  obtain ⟨hn, R2, s2, n2, k2, f2⟩ := h' R1 s1
  refine ⟨hn.low k1.size, R2, s2, n1.trans n2 k1.size, k1.past k2 (fun k hk hl => ?_), f2⟩
  rcases n1 k hk with q | q
  · exact q
  · omega
/-- What letting in keeps, under way: no block comes to the lock's. -/
def Lg (w : World) (lb : Nat) (R : List Nat) (M : Lk) (v : Value) (n : Nat) (W : World) : Prop := ∃ M1 l R1, l.length = n ∧ n + sizeL M1 ≤ sizeL M ∧ (letN M).1 = l ++ (letN M1).1 ∧ (letN M).2 = (letN M1).2 ∧ Lmid M1 ∧ Ns W w.heap.size v l ∧ Lc W lb R1 M1 ∧ (∀ k ∈ R1, k ∈ R) ∧ Kp w W R
def lenV : Value → Nat
  | .slice _ n _ => n
  | _ => 0
theorem nx_none {M : Lk} (h : nxB M = false) : nextL M = none := by
  unfold nxB at h
  rw [Bool.or_eq_false_iff] at h
  unfold nextL
  rw [h.1, h.2]
  rfl
theorem nx_w {M : Lk} (h : byW M = true) : nextL M = some (fstT M.q, inW M) := by unfold nextL; rw [h]; rfl
theorem nx_r {M : Lk} (h : byW M = false) (h' : byR M = true) : nextL M = some (fstT M.r, inR M) := by unfold nextL; rw [h, h']; rfl
theorem size_le {M : Lk} (h : Lmid M) : sizeL M ≤ 32 := by
  have := h.rk.len
  have := h.qk.len
  unfold sizeL
  omega
set_option maxRecDepth 100000 in
/-- Leave, of one that waits: no new block. -/
theorem leave_cut (w : World) (wb : Nat) (R : List Nat) (L : List Dl) (t : Int) (h : Wr w wb R L) (hT : mayT t = true) (hB : hasP L t = true) :
    Calls Try.prog 60 #[.pointer (some ⟨wb, 0, none⟩), .int .i64 t] w fun e w' => e = .returned (.int .i64 0) ∧ ∃ R', Wr w' wb R' (lvL L t) ∧ (∀ k ∈ R', k ∈ R) ∧ Kp w w' R := by
  obtain ⟨pb, V, rfl, h⟩ := h
  have H := hid h
  have ht : i64 t := by simp [mayT] at hT; constructor <;> omega
  have HT := hid hT
  have HH := hid (fun w1 (e : w1 = w) => has_any w1 (some ⟨wb, 0, none⟩) L t (by rw [e]; exact h.vw) ht)
  have HB := hid hB
  have HD := hid (fun w1 (e : w1 = w) => drop_any w1 wb pb V L t (by rw [e]; exact H.out) hB)
  unfold lvL
  rw [hT, if_pos rfl]
  clear h hT ht hB
  go_enter Try.func60, Try.ntmps60
  go_wp2_with (first | (go_at_call 72; refine (zero_no w wb pb V L H.out).mono ?_; rintro e w1 ⟨rfl, rfl⟩) | (go_at_call 77; refine (thread_any _ t).mono ?_; rintro e w1 ⟨rfl, rfl⟩; rw [HT.out]) | (go_at_call 69; refine (HH.out _ rfl).mono ?_; rintro e w1 ⟨rfl, rfl⟩; rw [HB.out]) | (go_at_call 80; refine (HD.out _ rfl).mono ?_; rintro e w2 ⟨rfl, hT2⟩; have T2 := hid hT2; clear hT2))
  go_ret
  obtain ⟨V', h1, h2, h3⟩ := T2.out
  refine ⟨rfl, _, ⟨pb, V', rfl, h1⟩, fun k hk => ?_, h3⟩
  simp only [rows, List.mem_cons, Option.mem_toList] at hk ⊢
  rcases hk with e | e | e
  · exact .inl e
  · exact .inr (.inl e)
  · exact .inr (.inr (h2 k e))
variable {w w' : World} {lb mb a b : Nat} {Ra Rb R : List Nat} {M : Lk}
theorem tu_readers {L : List Dl} {R1 : List Nat} (h : Li2 w lb mb a b Ra Rb M) (h1 : Wr w' a R1 L) (hn : ∀ k ∈ R1, k ∈ Ra) (hk : Kp w w' Ra) : ∃ R', Lc w' lb R' { M with r := L } ∧ (∀ k ∈ R', k ∈ lb :: mb :: (Ra ++ Rb)) ∧ Kp w w' (lb :: mb :: (Ra ++ Rb)) := by
  obtain ⟨P, hP, hT⟩ := h.mp
  have ho := h.off
  refine ⟨_, ⟨mb, a, b, R1, Rb, rfl, (hk.block lb (lt_of_block h.hh) ho.2.1).trans h.hh, ⟨P, hP.keep hk h.na, hT⟩, h1, h.wq.keep hk (fun k hm e => h.ap k e hm), fun hm => h.na (hn _ hm), h.nb, fun k hm e => h.ap k (hn k hm) e, h.lo, h.hi⟩, fun k hm => ?_, hk.mono (fun k hm _ => by simp [hm])⟩
  simp only [List.mem_cons, List.mem_append] at hm ⊢
  rcases hm with e | e | e | e
  · exact .inl e
  · exact .inr (.inl e)
  · exact .inr (.inr (.inl (hn k e)))
  · exact .inr (.inr (.inr e))
theorem tu_writers {L : List Dl} {R1 : List Nat} (h : Li2 w lb mb a b Ra Rb M) (h1 : Wr w' b R1 L) (hn : ∀ k ∈ R1, k ∈ Rb) (hk : Kp w w' Rb) : ∃ R', Lc w' lb R' { M with q := L } ∧ (∀ k ∈ R', k ∈ lb :: mb :: (Ra ++ Rb)) ∧ Kp w w' (lb :: mb :: (Ra ++ Rb)) := by
  obtain ⟨P, hP, hT⟩ := h.mp
  have ho := h.off
  refine ⟨_, ⟨mb, a, b, Ra, R1, rfl, (hk.block lb (lt_of_block h.hh) ho.2.2).trans h.hh, ⟨P, hP.keep hk h.nb, hT⟩, h.wr.keep hk (fun k hm e => h.ap k hm e), h1, h.na, fun hm => h.nb (hn _ hm), fun k hm e => h.ap k hm (hn k e), h.lo, h.hi⟩, fun k hm => ?_, hk.mono (fun k hm _ => by simp [hm])⟩
  simp only [List.mem_cons, List.mem_append] at hm ⊢
  rcases hm with e | e | e | e
  · exact .inl e
  · exact .inr (.inl e)
  · exact .inr (.inr (.inl e))
  · exact .inr (.inr (.inr (hn k e)))
set_option maxRecDepth 100000 in
/-- hold, with the same blocks. -/
theorem hold1s (w : World) (lb : Nat) (R : List Nat) (M : Lk) (t : Int) (h : Lc w lb R M) (ht : 0 ≤ t ∧ t < 16) : Calls Try.prog 57 #[.pointer (some ⟨lb, 0, none⟩), .int .i64 1, .int .i64 t] w fun e w' => e = .returned (.tuple #[]) ∧ Lc w' lb R { M with w := t } ∧ Kp w w' R := by
  obtain ⟨mb, a, b, Ra, Rb, rfl, h⟩ := h
  have FIN := hid (show Lc (w.setCell ⟨lb, 0, none⟩ (.int .i64 t)) lb (lb :: mb :: (Ra ++ Rb)) { M with w := t } ∧ Kp w (w.setCell ⟨lb, 0, none⟩ (.int .i64 t)) (lb :: mb :: (Ra ++ Rb)) from by
    obtain ⟨P, hP, hT⟩ := h.mp
    have ho := h.off
    have hk := Kp.setCell w ⟨lb, 0, none⟩ (.int .i64 t)
    refine ⟨⟨mb, a, b, Ra, Rb, rfl, set_four0 h.hh, ⟨P, hP.keep hk (by simp; exact fun e => ho.1 e.symm), hT⟩, h.wr.keep hk (fun k hm e => ?_), h.wq.keep hk (fun k hm e => ?_), h.na, h.nb, h.ap, by show -1 ≤ t; omega, by show t < 16; omega⟩, hk.mono (fun k hm _ => by simp at hm; simp [hm])⟩
    · simp at e; subst e; exact ho.2.1 hm
    · simp at e; subst e; exact ho.2.2 hm)
  have c0 := h.c0
  have f0 := h.free 0
  clear h ht
  go_enter Try.func57, Try.ntmps57
  go_wp2
  refine bodyPost_ret (results_none rfl _ _ _) rfl ?_
  exact ⟨rfl, FIN.out⟩
set_option maxRecDepth 100000 in
theorem hold0s (w : World) (lb : Nat) (R : List Nat) (M : Lk) (t : Int) (h : Lc w lb R M) (ht : 0 ≤ t ∧ t < 16) (h0 : 0 ≤ M.c t.toNat) (h1 : M.c t.toNat ≤ 32767) : Calls Try.prog 57 #[.pointer (some ⟨lb, 0, none⟩), .int .i64 0, .int .i64 t] w fun e w' => e = .returned (.tuple #[]) ∧ Lc w' lb R { M with c := updC M.c t (M.c t.toNat + 1) } ∧ Kp w w' R := by
  obtain ⟨mb, a, b, Ra, Rb, rfl, h⟩ := h
  have c1 := h.c1
  obtain ⟨P, hP, hT⟩ := h.mp
  have hl := hP.look53 (k := t) ⟨by omega, by omega⟩
  rw [hT.get, cnt_in ht] at hl
  have hwr : IntKind.i64.wrap (M.c t.toNat + 1) = M.c t.toNat + 1 := IntWalk.i64_in _ ⟨by omega, by omega⟩
  obtain ⟨w1, hrun, hm, hk⟩ := hP.store (k := t) (v := M.c t.toNat + 1) (by omega) (by omega) (by omega) (by omega) (hT.len hP.rises)
  have hT2 := hT.put hP.rises ht (v := M.c t.toNat + 1) (by omega)
  have FIN := hid (show Lc w1 lb (lb :: mb :: (Ra ++ Rb)) { M with c := updC M.c t (M.c t.toNat + 1) } ∧ Kp w w1 (lb :: mb :: (Ra ++ Rb)) from by
    have ho := h.off
    refine ⟨⟨mb, a, b, Ra, Rb, rfl, (hk.block lb (lt_of_block h.hh) (by simp; exact ho.1)).trans h.hh, ⟨_, hm, hT2⟩, h.wr.keep hk (fun k hx e => ?_), h.wq.keep hk (fun k hx e => ?_), h.na, h.nb, h.ap, h.lo, h.hi⟩, hk.mono (fun k hm _ => by simp at hm; simp [hm])⟩
    · simp at e; subst e; exact h.na hx
    · simp at e; subst e; exact h.nb hx)
  clear h hP hT hm hk ht hT2
  generalize M.c t.toNat = C at hl hwr hrun FIN h0 h1
  clear h0 h1
  go_enter Try.func57, Try.ntmps57
  go_wp2
  refine bodyPost_end (results_none rfl _ _ _) rfl ?_
  exact ⟨rfl, FIN.out⟩
/-- One is let in. -/
theorem Lg.on {n cap : Nat} {ao : Option Addr} {W z3 z4 : World} {M1 M2 : Lk} {l : List Int} {R1 R3 : List Nat} {t : Int} {y : Value} (hR : ∀ k ∈ R, k < w.heap.size) (hl : l.length = n) (hsz : n + sizeL M1 ≤ sizeL M) (e1 : (letN M).1 = l ++ (letN M1).1) (e2 : (letN M).2 = (letN M1).2) (hr1 : ∀ k ∈ R1, k ∈ R) (hk1 : Kp w W R) (hns : Ns W w.heap.size (.slice ao n cap) l)
    (hm2 : Lmid M2) (hs2 : sizeL M2 < sizeL M1) (e3 : (letN M1).1 = t :: (letN M2).1) (e4 : (letN M1).2 = (letN M2).2) (hc : Lc z3 lb R3 M2) (hr3 : ∀ k ∈ R3, k ∈ R1) (hk3 : Kp W z3 R1) (hy : Ns z4 w.heap.size y (l ++ [t])) (hk4 : Kp z3 z4 (Value.slice ao n cap).ownBlock.toList) : Lg w lb R M y (n + 1) z4 := by
  refine ⟨M2, l ++ [t], R3, by simp [hl], by omega, by rw [e1, e3]; simp, by rw [e2, e4], hm2, hy, hc.keep hk4 (fun k hm hx => ?_), fun k hm => hr1 k (hr3 k hm), (hk1.past hk3 (fun k hm _ => hr1 k hm)).past hk4 (fun k hm hl => ?_)⟩
  · simp only [Option.mem_toList] at hx
    have := (owns_block hns hx).1
    have := hR k (hr1 k (hr3 k hm))
    omega
  · simp only [Option.mem_toList] at hm
    have := (owns_block hns hm).1
    omega
set_option maxRecDepth 100000 in
theorem let_no (w : World) (lb : Nat) (R : List Nat) (M : Lk) (E : Int) (h : Lc w lb R M) (hE : E ≠ 0) : Calls Try.prog 48 #[.pointer (some ⟨lb, 0, none⟩), .int .i64 E] w fun e w' => ∃ ao cap, e = .returned (.tuple #[.slice ao 0 cap, .int .i64 E]) ∧ Tl w w' lb R M (.slice ao 0 cap) [] := by
  have hne : (E != 0) = true := by simp [hE]
  have HF := hid (Tl.stay h (Kp.refl _ _))
  clear h hE
  go_enter Try.func48, Try.ntmps48
  go_wp2
  go_step3
  go_wp2
  rw [Exit.noGoto_ret]
  go_ret2
  exact ⟨none, 0, rfl, HF.out⟩
set_option maxRecDepth 100000 in
theorem let_nil (w : World) (p : Option Addr) (E : Int) (hE : E ≠ 0) : Calls Try.prog 48 #[.pointer p, .int .i64 E] w fun e w' => e = .returned (.tuple #[.slice none 0 0, .int .i64 E]) ∧ w' = w := by
  have hne : (E != 0) = true := by simp [hE]
  clear hE
  go_enter Try.func48, Try.ntmps48
  go_wp2
  go_step3
  go_wp2
  rw [Exit.noGoto_ret]
  go_ret2
  exact ⟨rfl, rfl⟩
set_option maxRecDepth 100000 in
set_option maxHeartbeats 2000000 in
theorem let_yes (w : World) (lb : Nat) (R : List Nat) (M : Lk) (h : Lc w lb R M) (hm : Lmid M) : Calls Try.prog 48 #[.pointer (some ⟨lb, 0, none⟩), .int .i64 0] w fun e w' => ∃ ao cap, e = .returned (.tuple #[.slice ao (letN M).1.length cap, .int .i64 0]) ∧ Tl w w' lb R (letN M).2 (.slice ao (letN M).1.length cap) (letN M).1 := by
  have HG := hid (show Lg w lb R M (.slice none 0 0) 0 w from ⟨M, [], R, rfl, by omega, rfl, rfl, hm, Ns.nil _ _, h, fun _ h => h, Kp.refl _ _⟩)
  have HSZ := hid (size_le hm)
  have HR := hid h.lt
  clear h hm
  go_enter Try.func48, Try.ntmps48
  go_wp2
  go_step3
  go_wp2
  go_step3
  go_wp2
  go_loopw [6] (fun v wr => ∃ (n : Nat) (ao : Option Addr) (cap : Nat), v = .slice ao n cap ∧ Hid (Lg w lb R M (.slice ao n cap) n wr)) (fun v _ => 33 - lenV v)
  case atStart => exact ⟨0, none, 0, rfl, HG⟩
  case round =>
    obtain ⟨n, ao, cap, rfl, hG⟩ := hrel
    clear HG
    obtain ⟨M1, l, R1, hl, hsz, e1, e2, hm1, hns, hc1, hr1, hk1⟩ := hG.out
    have HN := hid (lnext wr lb R1 M1 hc1 hm1)
    cases hB : nxB M1
    · rw [hB] at HN
      have hno := nx_none hB
      have FIN := hid (fun (z : World) (hk : Kp wr z []) => (show ∃ ao' cap', Value.slice ao n cap = .slice ao' (letN M).1.length cap' ∧ Tl w z lb R (letN M).2 (.slice ao' (letN M).1.length cap') (letN M).1 from by
        have e3 : (letN M).1 = l := by rw [e1, let_none hno]; simp
        have e4 : (letN M).2 = M1 := by rw [e2, let_none hno]
        rw [e3, e4, hl]
        refine ⟨ao, cap, rfl, hns.keep hk, R1, hc1.same hk, fun k hm => .inl (hr1 k hm), hk1.trans hk.nil, fun g hg hm => ?_⟩
        have := (owns_block hns hg).1
        have := HR.out g (hr1 g hm)
        omega))
      clear hB hno hl hsz e1 e2 hm1 hns hc1 hr1 hk1 hG
      generalize nxW M1 = XW at HN
      generalize nxT M1 = XT at HN
      go_wp2_with fail
      refine HN.out.mono ?_
      rintro e z1 ⟨rfl, hk⟩
      have HF := hid (FIN.out z1 hk)
      clear hk
      go_wp2
      rw [Exit.noGoto_ret]
      go_ret2
      obtain ⟨ao', cap', ee, ht⟩ := HF.out
      exact ⟨ao', cap', by simpa using ee, ht⟩
    · cases hW : byW M1
      · have hR : byR M1 = true := by unfold nxB at hB; rw [hW] at hB; simpa using hB
        have eW : nxW M1 = 0 := by unfold nxW; rw [hW]; rfl
        have eT : nxT M1 = fstT M1.r := by unfold nxT; rw [hW, hR]; rfl
        have hnx := nx_r hW hR
        have hrg := (fst_rng hm1.rk (byR_r hR).2.1).1
        have hcs := hm1.cs (fstT M1.r).toNat (by omega)
        rw [hB, eW, eT] at HN
        obtain ⟨hm2, hsz2, -⟩ := next_mid hm1 hnx
        have hls := let_some hm1 hnx
        have hmt : mayT (fstT M1.r) = true := by simp [mayT]; omega
        have hhp : hasP M1.r (fstT M1.r) = true := fst_has hm1.rk (byR_r hR).2.1
        have ON := hid (fun (z3 z4 : World) (R3 : List Nat) (y : Value) (x1 : Lc z3 lb R3 (inR M1)) (x2 : ∀ k ∈ R3, k ∈ R1) (x3 : Kp wr z3 R1) (x4 : Ns z4 w.heap.size y (l ++ [fstT M1.r])) (x5 : Kp z3 z4 (Value.slice ao n cap).ownBlock.toList) => Lg.on HR.out hl hsz e1 e2 hr1 hk1 hns hm2 hsz2 (by rw [hls]) (by rw [hls]) x1 x2 x3 x4 x5)
        have HNS := hid (And.intro hl (fun (z : World) (hk : Kp wr z R1) => hns.kp hk (fun g hg hm => by
          have := (owns_block hns hg).1
          have := HR.out g (hr1 g hm)
          omega)))
        have HZ := hid (show n ≤ 32 ∧ w.heap.size ≤ wr.heap.size from ⟨by have := HSZ.out; omega, hk1.size⟩)
        obtain ⟨mb, a, b, Ra, Rb, rfl, h2⟩ := hc1
        have HQ := hid (fun (z : World) (hk : Kp wr z []) => And.intro (h2.same hk).c2 (leave_cut z a Ra M1.r (fstT M1.r) (h2.same hk).wr hmt hhp))
        have HX := hid (fun (z1 z : World) (hk : Kp wr z1 []) (R2 : List Nat) (x1 : Wr z a R2 (lvL M1.r (fstT M1.r))) (x2 : ∀ k ∈ R2, k ∈ Ra) (x3 : Kp z1 z Ra) => tu_readers (h2.same hk) x1 x2 x3)
        have HHo := hid (fun (z : World) (R2 : List Nat) (hl : Lc z lb R2 { M1 with r := lvL M1.r (fstT M1.r) }) => hold0s z lb R2 _ (fstT M1.r) hl hrg hcs.1 hcs.2)
        have EQ := hid (show inR M1 = { M1 with c := updC M1.c (fstT M1.r) (M1.c (fstT M1.r).toNat + 1), r := lvL M1.r (fstT M1.r) } from rfl)
        have HI := hid hrg
        clear h2 hB hW eW eT hnx hm2 hsz2 hls hmt hhp hl hsz e1 e2 hm1 hns hr1 hk1 hG hrg HR HSZ hR hcs
        generalize inR M1 = M2 at ON EQ
        generalize fstT M1.r = ft at HN ON HQ HX HHo EQ HI
        go_wp2_with fail
        refine HN.out.mono ?_
        rintro e z1 ⟨rfl, hk⟩
        have K1 := hid hk
        obtain ⟨c2, hLv⟩ := HQ.out z1 hk
        have HLv := hid hLv
        clear hk hLv
        go_wp2_with fail
        refine HLv.out.mono ?_
        rintro e z2 ⟨rfl, R2, x1, x2, x3⟩
        obtain ⟨R3, s3, n3, k3⟩ := HX.out z1 z2 K1.out R2 x1 x2 x3
        have HH := hid (HHo.out z2 R3 s3)
        have N3 := hid (And.intro n3 (K1.out.nil.trans k3))
        clear x1 x2 x3 c2 s3 n3 k3
        go_wp2_with fail
        refine HH.out.mono ?_
        rintro e z3 ⟨rfl, s4, k4⟩
        have kz : Kp wr z3 (lb :: mb :: (Ra ++ Rb)) := N3.out.2.past k4 (fun k hm _ => N3.out.1 k hm)
        have ka := Kp.alloc z3 (.cells #[.int .i64 ft] 3) []
        have S4 := hid (show Lc (z3.alloc (.cells #[.int .i64 ft] 3)) lb R3 M2 from by rw [EQ.out]; exact s4.same ka)
        have K4 := hid (kz.trans ka.nil)
        have NX := hid ((HNS.out.2 z3 kz).keep ka)
        have HB4 := hid (show w.heap.size ≤ (z3.alloc (.cells #[.int .i64 ft] 3)).heap.size by have := kz.size; have := HZ.out.2; simp; omega)
        have HC := hid (show (z3.alloc (.cells #[.int .i64 ft] 3)).cell? ⟨z3.heap.size, 0, none⟩ = some (.int .i64 ft) by simp)
        have hlen : l.length ≤ 100000 := by have := HNS.out.1; have := HZ.out.1; omega
        clear s4 k4 kz ka
        go_wp2_with (refine wpList_pushI rfl (.tmp 33) (.tmp 35) rfl w.heap.size (.slice ao n cap) l ft _ rfl NX.out rfl HC.out hlen HB4.out ?_; intro y w9 h1 h2; have hs := h1.slice; obtain ⟨ao', cap', hy⟩ := hs; rw [show (l ++ [ft]).length = n + 1 by rw [List.length_append, HNS.out.1]; rfl] at hy; subst hy; have L9 := hid (ON.out _ w9 R3 _ S4.out N3.out.1 K4.out h1 (Kp.ofGrown (rows := (Value.slice ao n cap).ownBlock.toList) h2 (by intro g hg; have hg' : (Value.slice ao n cap).ownBlock = some g := hg; simp [hg']))); clear h1 h2)
        go_roundw
        case rel => exact ⟨n + 1, ao', cap', rfl, L9⟩
        case measure => simp [lenV]; have := HZ.out.1; omega
      · have eW : nxW M1 = 1 := by unfold nxW; rw [hW]; rfl
        have eT : nxT M1 = fstT M1.q := by unfold nxT; rw [hW]; rfl
        have hnx := nx_w hW
        have hrg := (fst_rng hm1.qk (byW_q hW).2.1).1
        rw [hB, eW, eT] at HN
        obtain ⟨hm2, hsz2, -⟩ := next_mid hm1 hnx
        have hls := let_some hm1 hnx
        have hmt : mayT (fstT M1.q) = true := by simp [mayT]; omega
        have hhp : hasP M1.q (fstT M1.q) = true := fst_has hm1.qk (byW_q hW).2.1
        have ON := hid (fun (z3 z4 : World) (R3 : List Nat) (y : Value) (x1 : Lc z3 lb R3 (inW M1)) (x2 : ∀ k ∈ R3, k ∈ R1) (x3 : Kp wr z3 R1) (x4 : Ns z4 w.heap.size y (l ++ [fstT M1.q])) (x5 : Kp z3 z4 (Value.slice ao n cap).ownBlock.toList) => Lg.on HR.out hl hsz e1 e2 hr1 hk1 hns hm2 hsz2 (by rw [hls]) (by rw [hls]) x1 x2 x3 x4 x5)
        have HNS := hid (And.intro hl (fun (z : World) (hk : Kp wr z R1) => hns.kp hk (fun g hg hm => by
          have := (owns_block hns hg).1
          have := HR.out g (hr1 g hm)
          omega)))
        have HZ := hid (show n ≤ 32 ∧ w.heap.size ≤ wr.heap.size from ⟨by have := HSZ.out; omega, hk1.size⟩)
        obtain ⟨mb, a, b, Ra, Rb, rfl, h2⟩ := hc1
        have HQ := hid (fun (z : World) (hk : Kp wr z []) => And.intro (h2.same hk).c3 (leave_cut z b Rb M1.q (fstT M1.q) (h2.same hk).wq hmt hhp))
        have HX := hid (fun (z1 z : World) (hk : Kp wr z1 []) (R2 : List Nat) (x1 : Wr z b R2 (lvL M1.q (fstT M1.q))) (x2 : ∀ k ∈ R2, k ∈ Rb) (x3 : Kp z1 z Rb) => tu_writers (h2.same hk) x1 x2 x3)
        have HHo := hid (fun (z : World) (R2 : List Nat) (hl : Lc z lb R2 { M1 with q := lvL M1.q (fstT M1.q) }) => hold1s z lb R2 _ (fstT M1.q) hl hrg)
        have EQ := hid (show inW M1 = { M1 with w := fstT M1.q, q := lvL M1.q (fstT M1.q) } from rfl)
        have HI := hid hrg
        clear h2 hB hW eW eT hnx hm2 hsz2 hls hmt hhp hl hsz e1 e2 hm1 hns hr1 hk1 hG hrg HR HSZ 
        generalize inW M1 = M2 at ON EQ
        generalize fstT M1.q = ft at HN ON HQ HX HHo EQ HI
        go_wp2_with fail
        refine HN.out.mono ?_
        rintro e z1 ⟨rfl, hk⟩
        have K1 := hid hk
        obtain ⟨c2, hLv⟩ := HQ.out z1 hk
        have HLv := hid hLv
        clear hk hLv
        go_wp2_with fail
        refine HLv.out.mono ?_
        rintro e z2 ⟨rfl, R2, x1, x2, x3⟩
        obtain ⟨R3, s3, n3, k3⟩ := HX.out z1 z2 K1.out R2 x1 x2 x3
        have HH := hid (HHo.out z2 R3 s3)
        have N3 := hid (And.intro n3 (K1.out.nil.trans k3))
        clear x1 x2 x3 c2 s3 n3 k3
        go_wp2_with fail
        refine HH.out.mono ?_
        rintro e z3 ⟨rfl, s4, k4⟩
        have kz : Kp wr z3 (lb :: mb :: (Ra ++ Rb)) := N3.out.2.past k4 (fun k hm _ => N3.out.1 k hm)
        have ka := Kp.alloc z3 (.cells #[.int .i64 ft] 3) []
        have S4 := hid (show Lc (z3.alloc (.cells #[.int .i64 ft] 3)) lb R3 M2 from by rw [EQ.out]; exact s4.same ka)
        have K4 := hid (kz.trans ka.nil)
        have NX := hid ((HNS.out.2 z3 kz).keep ka)
        have HB4 := hid (show w.heap.size ≤ (z3.alloc (.cells #[.int .i64 ft] 3)).heap.size by have := kz.size; have := HZ.out.2; simp; omega)
        have HC := hid (show (z3.alloc (.cells #[.int .i64 ft] 3)).cell? ⟨z3.heap.size, 0, none⟩ = some (.int .i64 ft) by simp)
        have hlen : l.length ≤ 100000 := by have := HNS.out.1; have := HZ.out.1; omega
        clear s4 k4 kz ka
        go_wp2_with (refine wpList_pushI rfl (.tmp 33) (.tmp 35) rfl w.heap.size (.slice ao n cap) l ft _ rfl NX.out rfl HC.out hlen HB4.out ?_; intro y w9 h1 h2; have hs := h1.slice; obtain ⟨ao', cap', hy⟩ := hs; rw [show (l ++ [ft]).length = n + 1 by rw [List.length_append, HNS.out.1]; rfl] at hy; subst hy; have L9 := hid (ON.out _ w9 R3 _ S4.out N3.out.1 K4.out h1 (Kp.ofGrown (rows := (Value.slice ao n cap).ownBlock.toList) h2 (by intro g hg; have hg' : (Value.slice ao n cap).ownBlock = some g := hg; simp [hg']))); clear h1 h2)
        go_roundw
        case rel => exact ⟨n + 1, ao', cap', rfl, L9⟩
        case measure => simp [lenV]; have := HZ.out.1; omega
end Go.Proofs.Ytcfjlmkeomiiaaa
