/- A lock that was made here, with numbers beside; states written out. -/
import Derived.Test.YtcfjlmkeomiiaaaLw
import Derived.Test.YtcfjlmkeomiiaaaLb
import Derived.Test.YtcfjlmkeomiiaaaSq
namespace Go.Proofs.Ytcfjlmkeomiiaaa
open Go.RowKit Go.Shelf Go.Lib Go.Sort Go.Maps
attribute [local go_sem] Oper.semAt_some

/-! ### Computed -/
def fTk (L : List Dl) : Int := ((ordK L 31).headD (0, 0)).1
def fPk (L : List Dl) : Int := ((ordK L 31).headD (0, 0)).2
def fBk (L : List Dl) : Bool := !(ordK L 31).isEmpty
theorem fT_k (L : List Dl) : fstT L = fTk L := by unfold fstT fTk; rw [ordL_eq]
theorem fP_k (L : List Dl) : fstP L = fPk L := by unfold fstP fPk; rw [ordL_eq]
theorem fB_k (L : List Dl) : fstB L = fBk L := by unfold fstB fBk; rw [ordL_eq]
def mayk (M : Lk) (t p : Int) : Bool := decide (M.w < 0) && (decide (0 < M.c t.toNat) || !fBk M.q || decide (fPk M.q < p))
theorem may_k (M : Lk) (t p : Int) : mayR M t p = mayk M t p := by unfold mayR mayk; rw [fB_k, fP_k]
def rdBk (M : Lk) (t p : Int) : Bool := decide (askE M t p false = 0) && mayk M t p
theorem rdB_k (M : Lk) (t p : Int) : rdB M t p = rdBk M t p := by unfold rdB rdBk; rw [may_k]
def rdMk (M : Lk) (t p : Int) (b : Bool) : Lk := if askE M t p false = 0 then (if mayk M t p then { M with c := updC M.c t (M.c t.toNat + 1) } else if b then M else { M with r := putL M.r t p }) else M
theorem rdM_k (M : Lk) (t p : Int) (b : Bool) : rdM M t p b = rdMk M t p b := by unfold rdM rdMk; rw [may_k]
def byWk (M : Lk) : Bool := !heldL M && fBk M.q && (!fBk M.r || decide (fPk M.r ≤ fPk M.q))
def byRk (M : Lk) : Bool := decide (M.w < 0) && fBk M.r && mayk M (fTk M.r) (fPk M.r)
def nextk (M : Lk) : Option (Int × Lk) := if byWk M then some (fTk M.q, { M with w := fTk M.q, q := lvL M.q (fTk M.q) }) else if byRk M then some (fTk M.r, { M with c := updC M.c (fTk M.r) (M.c (fTk M.r).toNat + 1), r := lvL M.r (fTk M.r) }) else none
theorem next_k (M : Lk) : nextL M = nextk M := by
  unfold nextL nextk byW byR byWk byRk inW inR
  rw [fB_k, fB_k, fP_k, fP_k, fT_k, fT_k, may_k]
def letFk : Nat → Lk → List Int × Lk
  | 0, M => ([], M)
  | n + 1, M => match nextk M with
    | none => ([], M)
    | some x => (x.1 :: (letFk n x.2).1, (letFk n x.2).2)
theorem letF_k : ∀ (n : Nat) (M : Lk), letF n M = letFk n M
  | 0, _ => rfl
  | n + 1, M => by
    unfold letF letFk
    rw [next_k]
    cases nextk M with
    | none => rfl
    | some x => simp only [letF_k n x.2]
def letNk (M : Lk) : List Int × Lk := letFk (sizeL M) M
theorem letN_k (M : Lk) : letN M = letNk M := letF_k _ _
def unOk (M : Lk) (t : Int) : List Int := if unE M t = 0 then (letNk (unK M t)).1 else []
def unMk (M : Lk) (t : Int) : Lk := if unE M t = 0 then (letNk (unK M t)).2 else M
theorem unO_k (M : Lk) (t : Int) : unO M t = unOk M t := by unfold unO unOk; rw [letN_k]
theorem unM_k (M : Lk) (t : Int) : unM M t = unMk M t := by unfold unM unMk; rw [letN_k]
def leOk (M : Lk) (t : Int) : List Int := if leE M t = 0 then (letNk (leK M t)).1 else []
def leMk (M : Lk) (t : Int) : Lk := if leE M t = 0 then (letNk (leK M t)).2 else M
theorem leO_k (M : Lk) (t : Int) : leO M t = leOk M t := by unfold leO leOk; rw [letN_k]
theorem leM_k (M : Lk) (t : Int) : leM M t = leMk M t := by unfold leM leMk; rw [letN_k]
def chOk (M : Lk) (t p : Int) : List Int := if chgEL M t p = 0 then (letNk (chK M t p)).1 else []
def chMk (M : Lk) (t p : Int) : Lk := if chgEL M t p = 0 then (letNk (chK M t p)).2 else M
theorem chO_k (M : Lk) (t p : Int) : chO M t p = chOk M t p := by unfold chO chOk; rw [letN_k]
theorem chM_k (M : Lk) (t p : Int) : chM M t p = chMk M t p := by unfold chM chMk; rw [letN_k]
/-- A state written out. -/
def mkL (w : Int) (l : List (Nat × Int)) (r q : List Dl) : Lk := ⟨w, fun k => ((l.find? fun x => x.1 == k).map (·.2)).getD 0, r, q⟩

/-! ### What holds between calls, of one that is the same -/
variable {M M' : Lk}
theorem Le.held (h : Le M M') : heldL M = heldL M' := by
  unfold heldL
  rw [h.w]
  congr 1
  rw [Bool.eq_iff_iff, anyC_iff, anyC_iff]
  constructor
  · rintro ⟨t, ht, hc⟩; exact ⟨t, ht, by rw [← h.c t ht]; exact hc⟩
  · rintro ⟨t, ht, hc⟩; exact ⟨t, ht, by rw [h.c t ht]; exact hc⟩
theorem Lok.congr (hM : Lok M) (h : Le M M') : Lok M' := by
  have hm := hM.mid
  have hs := lset_of hM
  refine lok_of ⟨h.w ▸ hm.lo, h.w ▸ hm.hi, fun t ht => h.c t ht ▸ hm.cs t ht, h.r ▸ hm.rk, h.q ▸ hm.qk, fun hw t ht => ?_, fun t ht => ?_, fun t ht => ?_, fun t ht => ?_⟩ ⟨fun hh => ?_, fun hw => ?_⟩
  · rw [← h.c t ht]; exact hm.al (h.w ▸ hw) t ht
  · rw [← h.q]; exact hm.ap t (h.r ▸ ht)
  · rw [← h.r] at ht
    obtain ⟨x, hx, e⟩ := mem_has.1 ht
    have := (hm.rk.rng x hx).1
    rw [← h.c t.toNat (by omega), ← h.w]
    exact hm.rz t ht
  · rw [← h.q] at ht
    obtain ⟨x, hx, e⟩ := mem_has.1 ht
    have := (hm.qk.rng x hx).1
    rw [← h.c t.toNat (by omega), ← h.w]
    exact hm.qz t ht
  · rw [← h.r, ← h.q]; exact hs.free (by rw [h.held]; exact hh)
  · rw [← h.r, ← h.q]; exact hs.low (h.w ▸ hw)

/-- A lock that was made behind w0, and lists of numbers beside. -/
def Kl (w0 W : World) (lb : Nat) (M : Lk) (ks : List (Value × List Int)) : Prop :=
  Lok M ∧ ∃ R, Lc W lb R M ∧ (∀ k ∈ R, w0.heap.size ≤ k) ∧ (∀ x ∈ ks, Ns W w0.heap.size x.1 x.2 ∧ ∀ g, x.1.ownBlock = some g → g ∉ R) ∧ Kp w0 W []
variable {w0 W : World} {lb : Nat} {ks : List (Value × List Int)}
theorem ns_far {W : World} {base : Nat} {v : Value} {l : List Int} (h : Ns W base v l) {g : Nat} (hg : v.ownBlock = some g) : base ≤ g ∧ g < W.heap.size := ⟨(owns_block h hg).1, lt_of_block (owns_block h hg).2.choose_spec⟩
theorem Kl.kp (h : Kl w0 W lb M ks) : Kp w0 W [] := by
  obtain ⟨-, R, -, -, -, h⟩ := h
  exact h
theorem Kl.ok (h : Kl w0 W lb M ks) : Lok M := h.1
theorem Kl.same {w' : World} (h : Kl w0 W lb M ks) (hk : Kp W w' []) : Kl w0 w' lb M ks := by
  obtain ⟨hM, R, h1, h2, h3, h4⟩ := h
  exact ⟨hM, R, h1.same hk, h2, fun x hx => ⟨(h3 x hx).1.keep hk, (h3 x hx).2⟩, h4.trans hk⟩
theorem Kl.ns (h : Kl w0 W lb M ks) {x : Value × List Int} (hx : x ∈ ks) : Ns W w0.heap.size x.1 x.2 := by
  obtain ⟨hM, R, h1, h2, h3, h4⟩ := h
  exact (h3 x hx).1
theorem Kl.to {w' : World} {R : List Nat} (hM : Lok M') (h2 : ∀ k ∈ R, w0.heap.size ≤ k) (h3 : ∀ x ∈ ks, Ns W w0.heap.size x.1 x.2 ∧ ∀ g, x.1.ownBlock = some g → g ∉ R) (h4 : Kp w0 W []) (h : To W w' lb R M') : Kl w0 w' lb M' ks := by
  obtain ⟨R', s, nw, k⟩ := h
  refine ⟨hM, R', s, fun x hx => ?_, fun x hx => ⟨(h3 x hx).1.kp k (fun g hg => (h3 x hx).2 g hg), fun g hg hm => ?_⟩, h4.past k (fun x hx hl => by have := h2 x hx; omega)⟩
  · rcases nw x hx with q | q
    · exact h2 x q
    · have := h4.size; omega
  · rcases nw g hm with q | q
    · exact (h3 x hx).2 g hg q
    · have := (ns_far (h3 x hx).1 hg).2; omega
theorem Kl.tl {w' : World} {R : List Nat} {x : Value} {l : List Int} (hM : Lok M') (h2 : ∀ k ∈ R, w0.heap.size ≤ k) (h3 : ∀ x ∈ ks, Ns W w0.heap.size x.1 x.2 ∧ ∀ g, x.1.ownBlock = some g → g ∉ R) (h4 : Kp w0 W []) (h : Tl W w' lb R M' x l) : Kl w0 w' lb M' ((x, l) :: ks) := by
  obtain ⟨hn, R', s, nw, k, hf⟩ := h
  refine ⟨hM, R', s, fun x hx => ?_, fun y hy => ?_, h4.past k (fun x hx hl => by have := h2 x hx; omega)⟩
  · rcases nw x hx with q | q
    · exact h2 x q
    · have := h4.size; omega
  · rcases List.mem_cons.1 hy with rfl | hy
    · exact ⟨hn.low h4.size, hf⟩
    · refine ⟨(h3 y hy).1.kp k (fun g hg => (h3 y hy).2 g hg), fun g hg hm => ?_⟩
      rcases nw g hm with q | q
      · exact (h3 y hy).2 g hg q
      · have := (ns_far (h3 y hy).1 hg).2; omega
theorem kl_new (w : World) : Calls Try.prog 7 #[] w fun e w' => ∃ lb, e = .returned (.pointer (some ⟨lb, 0, none⟩)) ∧ Kl w w' lb newL [] := by
  refine (lnew w).mono ?_
  rintro e w' ⟨lb, R, rfl, h1, h2, h3⟩
  exact ⟨lb, rfl, lok_new, R, h1, h2, by simp, h3⟩
theorem Kl.read (h : Kl w0 W lb M ks) (t p : Int) (B : Bool) (E : Int) (M' : Lk) (e1 : rdBk M t p = B) (e2 : askE M t p false = E) (e3 : sameB (rdMk M t p false) M' = true) : Calls Try.prog 15 #[.pointer (some ⟨lb, 0, none⟩), .int .i64 t, .int .i64 p] W fun e w' => e = .returned (.tuple #[.bool B, .int .i64 E]) ∧ Kl w0 w' lb M' ks := by
  obtain ⟨hM, R, h1, h2, h3, h4⟩ := h
  refine (lread W lb R M t p h1 hM.mid).mono ?_
  rintro e w' ⟨rfl, hT⟩
  have hle := same_le.1 e3
  rw [rdM_k] at hT
  have hok : Lok (rdMk M t p false) := by
    have := hM.rd t p false
    rw [rdM_k] at this
    exact this
  exact ⟨by rw [rdB_k, e1, e2], Kl.to (hok.congr hle) h2 h3 h4 (hT.congr hle)⟩
theorem Kl.tryR (h : Kl w0 W lb M ks) (t p : Int) (B : Bool) (E : Int) (M' : Lk) (e1 : rdBk M t p = B) (e2 : askE M t p false = E) (e3 : sameB (rdMk M t p true) M' = true) : Calls Try.prog 19 #[.pointer (some ⟨lb, 0, none⟩), .int .i64 t, .int .i64 p] W fun e w' => e = .returned (.tuple #[.bool B, .int .i64 E]) ∧ Kl w0 w' lb M' ks := by
  obtain ⟨hM, R, h1, h2, h3, h4⟩ := h
  refine (ltryR W lb R M t p h1 hM.mid).mono ?_
  rintro e w' ⟨rfl, hT⟩
  have hle := same_le.1 e3
  rw [rdM_k] at hT
  have hok : Lok (rdMk M t p true) := by
    have := hM.rd t p true
    rw [rdM_k] at this
    exact this
  exact ⟨by rw [rdB_k, e1, e2], Kl.to (hok.congr hle) h2 h3 h4 (hT.congr hle)⟩
theorem Kl.write (h : Kl w0 W lb M ks) (t p : Int) (B : Bool) (E : Int) (M' : Lk) (e1 : wrB M t p = B) (e2 : askE M t p true = E) (e3 : sameB (wrM M t p false) M' = true) : Calls Try.prog 16 #[.pointer (some ⟨lb, 0, none⟩), .int .i64 t, .int .i64 p] W fun e w' => e = .returned (.tuple #[.bool B, .int .i64 E]) ∧ Kl w0 w' lb M' ks := by
  obtain ⟨hM, R, h1, h2, h3, h4⟩ := h
  refine (lwrite W lb R M t p h1 hM.mid).mono ?_
  rintro e w' ⟨rfl, hT⟩
  have hle := same_le.1 e3
  rw [show wrM M t p false = wrM M t p false from rfl] at hT
  have hok : Lok (wrM M t p false) := by
    have := hM.wr t p false
    rw [show wrM M t p false = wrM M t p false from rfl] at this
    exact this
  exact ⟨by rw [e1, e2], Kl.to (hok.congr hle) h2 h3 h4 (hT.congr hle)⟩
theorem Kl.tryW (h : Kl w0 W lb M ks) (t p : Int) (B : Bool) (E : Int) (M' : Lk) (e1 : wrB M t p = B) (e2 : askE M t p true = E) (e3 : sameB (wrM M t p true) M' = true) : Calls Try.prog 20 #[.pointer (some ⟨lb, 0, none⟩), .int .i64 t, .int .i64 p] W fun e w' => e = .returned (.tuple #[.bool B, .int .i64 E]) ∧ Kl w0 w' lb M' ks := by
  obtain ⟨hM, R, h1, h2, h3, h4⟩ := h
  refine (ltryW W lb R M t p h1 hM.mid).mono ?_
  rintro e w' ⟨rfl, hT⟩
  have hle := same_le.1 e3
  rw [show wrM M t p true = wrM M t p true from rfl] at hT
  have hok : Lok (wrM M t p true) := by
    have := hM.wr t p true
    rw [show wrM M t p true = wrM M t p true from rfl] at this
    exact this
  exact ⟨by rw [e1, e2], Kl.to (hok.congr hle) h2 h3 h4 (hT.congr hle)⟩
theorem Kl.unlock (h : Kl w0 W lb M ks) (t : Int) (l : List Int) (E : Int) (M' : Lk) (e1 : unOk M t = l) (e2 : unE M t = E) (e3 : sameB (unMk M t) M' = true) : Calls Try.prog 21 #[.pointer (some ⟨lb, 0, none⟩), .int .i64 t] W fun e w' => ∃ ao cap, e = .returned (.tuple #[.slice ao l.length cap, .int .i64 E]) ∧ Kl w0 w' lb M' ((.slice ao l.length cap, l) :: ks) := by
  obtain ⟨hM, R, h1, h2, h3, h4⟩ := h
  refine (lunlock W lb R M t h1 hM.mid).mono ?_
  rintro e w' ⟨ao, cap, rfl, hT⟩
  have hle := same_le.1 e3
  rw [unO_k, e1, unM_k] at hT
  rw [unO_k, e1, e2]
  have hok : Lok (unMk M t) := by
    have := hM.un t
    rw [unM_k] at this
    exact this
  refine ⟨ao, cap, rfl, Kl.tl (hok.congr hle) h2 h3 h4 ?_⟩
  obtain ⟨hn, R', s, nw, k, hf⟩ := hT
  exact ⟨hn, R', s.congr hle, nw, k, hf⟩
theorem Kl.leave (h : Kl w0 W lb M ks) (t : Int) (ht : i64 t) (l : List Int) (E : Int) (M' : Lk) (e1 : leOk M t = l) (e2 : leE M t = E) (e3 : sameB (leMk M t) M' = true) : Calls Try.prog 22 #[.pointer (some ⟨lb, 0, none⟩), .int .i64 t] W fun e w' => ∃ ao cap, e = .returned (.tuple #[.slice ao l.length cap, .int .i64 E]) ∧ Kl w0 w' lb M' ((.slice ao l.length cap, l) :: ks) := by
  obtain ⟨hM, R, h1, h2, h3, h4⟩ := h
  refine (lleave W lb R M t h1 hM.mid ht).mono ?_
  rintro e w' ⟨ao, cap, rfl, hT⟩
  have hle := same_le.1 e3
  rw [leO_k, e1, leM_k] at hT
  rw [leO_k, e1, e2]
  have hok : Lok (leMk M t) := by
    have := hM.le t
    rw [leM_k] at this
    exact this
  refine ⟨ao, cap, rfl, Kl.tl (hok.congr hle) h2 h3 h4 ?_⟩
  obtain ⟨hn, R', s, nw, k, hf⟩ := hT
  exact ⟨hn, R', s.congr hle, nw, k, hf⟩
theorem Kl.change (h : Kl w0 W lb M ks) (t p : Int) (ht : i64 t) (l : List Int) (E : Int) (M' : Lk) (e1 : chOk M t p = l) (e2 : chgEL M t p = E) (e3 : sameB (chMk M t p) M' = true) : Calls Try.prog 17 #[.pointer (some ⟨lb, 0, none⟩), .int .i64 t, .int .i64 p] W fun e w' => ∃ ao cap, e = .returned (.tuple #[.slice ao l.length cap, .int .i64 E]) ∧ Kl w0 w' lb M' ((.slice ao l.length cap, l) :: ks) := by
  obtain ⟨hM, R, h1, h2, h3, h4⟩ := h
  refine (lchange W lb R M t p h1 hM.mid ht).mono ?_
  rintro e w' ⟨ao, cap, rfl, hT⟩
  have hle := same_le.1 e3
  rw [chO_k, e1, chM_k] at hT
  rw [chO_k, e1, e2]
  have hok : Lok (chMk M t p) := by
    have := hM.ch t p
    rw [chM_k] at this
    exact this
  refine ⟨ao, cap, rfl, Kl.tl (hok.congr hle) h2 h3 h4 ?_⟩
  obtain ⟨hn, R', s, nw, k, hf⟩ := hT
  exact ⟨hn, R', s.congr hle, nw, k, hf⟩
theorem Kl.readers (h : Kl w0 W lb M ks) (l : List Int) (e1 : (ordK M.r 31).map (·.1) = l) : Calls Try.prog 39 #[.pointer (some ⟨lb, 0, none⟩)] W fun e w' => ∃ ao cap, e = .returned (.slice ao l.length cap) ∧ Kl w0 w' lb M ((.slice ao l.length cap, l) :: ks) := by
  obtain ⟨hM, R, h1, h2, h3, h4⟩ := h
  refine (lreaders W _ R M h1.lv).mono ?_
  rintro e w' ⟨x, rfl, hx, hk⟩
  rw [keys_eq _ _ e1] at hx
  obtain ⟨ao, cap, rfl⟩ := hx.slice
  refine ⟨ao, cap, rfl, Kl.tl hM h2 h3 h4 ⟨hx, R, h1.same hk, Nw.refl _ _, hk.nil, fun g hg hm => ?_⟩⟩
  have := (ns_far hx hg).1
  have := h1.lt g hm
  omega
theorem Kl.writers (h : Kl w0 W lb M ks) (l : List Int) (e1 : (ordK M.q 31).map (·.1) = l) : Calls Try.prog 14 #[.pointer (some ⟨lb, 0, none⟩)] W fun e w' => ∃ ao cap, e = .returned (.slice ao l.length cap) ∧ Kl w0 w' lb M ((.slice ao l.length cap, l) :: ks) := by
  obtain ⟨hM, R, h1, h2, h3, h4⟩ := h
  refine (lwriters W _ R M h1.lv).mono ?_
  rintro e w' ⟨x, rfl, hx, hk⟩
  rw [keys_eq _ _ e1] at hx
  obtain ⟨ao, cap, rfl⟩ := hx.slice
  refine ⟨ao, cap, rfl, Kl.tl hM h2 h3 h4 ⟨hx, R, h1.same hk, Nw.refl _ _, hk.nil, fun g hg hm => ?_⟩⟩
  have := (ns_far hx hg).1
  have := h1.lt g hm
  omega
theorem Kl.reads (h : Kl w0 W lb M ks) (t : Int) (ht : i64 t) (v : Int) (e1 : cntC M.c t = v) : Calls Try.prog 38 #[.pointer (some ⟨lb, 0, none⟩), .int .i64 t] W fun e w' => e = .returned (.int .i64 v) ∧ w' = W := by
  obtain ⟨hM, R, h1, -⟩ := h
  have := lreads W _ R M t h1.lv ht
  rw [e1] at this
  exact this
theorem Kl.writer (h : Kl w0 W lb M ks) (v : Int) (b : Bool) (e1 : wrV M = v) (e2 : wrI M = b) : Calls Try.prog 24 #[.pointer (some ⟨lb, 0, none⟩)] W fun e w' => e = .returned (.tuple #[.int .i64 v, .bool b]) ∧ w' = W := by
  obtain ⟨hM, R, h1, -⟩ := h
  have := lwriter W _ R M h1.lv
  rw [e1, e2] at this
  exact this
theorem ints_y (w : World) (b1 b2 : Nat) (v1 v2 : Value) (l : List Int) (h1 : Ns w b1 v1 l) (h2 : Ns w b2 v2 l) (hl : l.length ≤ 100000) : Calls Try.prog 25 #[v1, v2] w fun e w' => e = .returned (.bool true) ∧ Kp w w' [] := by
  refine (ints_any w b1 b2 v1 v2 l l h1 h2 hl).mono ?_
  rintro e w' ⟨rfl, hk⟩
  exact ⟨by simp, hk⟩
end Go.Proofs.Ytcfjlmkeomiiaaa
