/- Turns: Add, Leave, Yield, Put, Move, Lift. -/
import Derived.Test.YtclbphnelfacfaaTw
namespace Go.Proofs.Ytclbphnelfacfaa
open Go.RowKit Go.Shelf

def mvE (L : Ls) (t p : Int) : Int := if 1 ≤ p ∧ p ≤ 31 then remE L t else 2
def addS (q : Nat) (S : Sh) (L : Ls) (t p : Int) (r : Bool) : Sh := if putE L p t = 0 then updS S t.toNat (r, q) else S
def lvS (S : Sh) (L : Ls) (t : Int) : Sh := if remE L t = 0 then updS S t.toNat (false, 0) else S
def yiL (L : Ls) (t : Int) : Ls := if remE L t = 0 then goL false L t (prI L t) else L
def puL (L : Ls) (t p : Int) : Ls := if mvE L t p = 0 then goL false L t p else L
def puS (q : Nat) (S : Sh) (L : Ls) (t p : Int) (r : Bool) : Sh := if mvE L t p = 0 then updS S t.toNat (r, q) else S
def moL (L : Ls) (t p : Int) : Ls := if mvE L t p = 0 then moveTo L t p (prI L t) else L
def liL (L : Ls) (t p : Int) : Ls := if mvE L t p = 0 then liftTo L t p (prI L t) else L

theorem one_at (w : World) (u : Value) (s : TypeId) : (w.alloc (.cells #[u] s)).cell? ⟨w.heap.size, 0, none⟩ = some u := cell_one (heap_alloc_new w (.cells #[u] s))
theorem old_at {w : World} {b : Nat} {v : Value} (h : w.cell? ⟨b, 0, none⟩ = some v) (o : Obj) : (w.alloc o).cell? ⟨b, 0, none⟩ = some v := (Kp.alloc w o []).cell h (by simp)
section
variable {w w' : World} {xb rb q s : Nat} {S : Sh} {L : Ls}
/-- The first one's boxes are new. -/
theorem To.new {W : World} (hk : Kp w W []) {k : Nat} (h : To W w' xb rb q S L s k) : To w w' xb rb q S L s k := by
  obtain ⟨h1, h2⟩ := h
  exact ⟨h1, hk.nil.trans h2⟩
set_option maxRecDepth 100000 in
theorem Tn.add (h : Tn w xb rb q S L s) (hs : s ≤ 890000) (t p : Int) (r : Bool) : Calls Try.prog 14 #[.pointer (some ⟨xb, 0, none⟩), .int .i64 t, .int .i64 p, .bool r] w fun e w' => e = .returned (.int .i64 (putE L p t)) ∧ To w w' xb rb q (addS q S L t p r) (putL false L p t) s 12 := by
  have cs := tseq_any w xb _ q S h.tc
  have H := hid h
  clear h
  have ct := H.out.rd.tail (by omega) p t
  unfold addS
  have hc := put_cases false L p t
  by_cases he : putE L p t = 0
  · rw [if_pos he]
    obtain ⟨T, rfl, t1⟩ : ∃ T : Nat, t = T ∧ T < 16 := by
      rcases hc with ⟨-, e1, -⟩ | ⟨P, T, -, e, -, -, t1, -⟩
      · rw [e1] at he; cases he
      · exact ⟨T, e, t1⟩
    rw [he] at ct ⊢
    clear hc he
    go_enter Try.func14, Try.ntmps14
    go_wp2_with (go_at_call 42; refine cs.mono ?_; rintro e w' ⟨rfl, rfl⟩)
    refine ct.mono ?_
    rintro e w1 ⟨rfl, ⟨s1, l1, m1, hR1⟩, hK1⟩
    have T1 := hid (H.out.over hR1 hK1 m1)
    obtain ⟨⟨s2, l2, h2⟩, -⟩ := T1.out
    have H2 := hid h2
    clear hR1 hK1 h2
    go_wp2_with fail
    refine (H2.out.fill t1 r).mono ?_
    rintro e w2 ⟨⟨v2, rfl⟩, hT2⟩
    have HT2 := hid (show To w' w2 xb rb q (updS S T (r, q)) (putL false L p T) s 12 from by
      obtain ⟨⟨s3, l3, h3⟩, k3⟩ := hT2
      exact ⟨⟨s3, by omega, h3⟩, T1.out.2.trans k3⟩)
    clear hT2
    go_wp2
    go_ret
    exact ⟨rfl, by simpa using HT2.out⟩
  · rw [if_neg he]
    have hq : (putE L p t == 0) = false := by simp [he]
    obtain ⟨E, hE⟩ : ∃ E, putE L p t = E := ⟨_, rfl⟩
    rw [hE] at ct hq ⊢
    clear hc he hE
    go_enter Try.func14, Try.ntmps14
    go_wp2_with (go_at_call 42; refine cs.mono ?_; rintro e w' ⟨rfl, rfl⟩)
    refine ct.mono ?_
    rintro e w1 ⟨rfl, ⟨s1, l1, m1, hR1⟩, hK1⟩
    have T1 := hid (H.out.over hR1 hK1 m1)
    clear hR1 hK1
    go_wp2
    go_ret
    exact ⟨rfl, T1.out.more (by omega)⟩
set_option maxRecDepth 100000 in
set_option maxHeartbeats 1000000 in
theorem Tn.leave (h : Tn w xb rb q S L s) (hs : s ≤ 890000) (t : Int) : Calls Try.prog 27 #[.pointer (some ⟨xb, 0, none⟩), .int .i64 t] w fun e w' => e = .returned (.int .i64 (remE L t)) ∧ To w w' xb rb q (lvS S L t) (remL L t) s 12 := by
  have HK := hid ((Kp.alloc w (.cells #[.pointer (some ⟨xb, 0, none⟩)] 23) []).trans (Kp.alloc _ (.cells #[.int .i64 t] 3) []))
  have h1 := h.same HK.out
  have hl := h.lt
  clear h
  unfold lvS
  rcases rem_cases L t with ⟨ha, e1, e2⟩ | ⟨T, rfl, t1, ⟨h0, e1, e2⟩ | ⟨h0, e1, e2⟩⟩
  · have cf := fun f => h1.from_err t f (by rw [e1]; decide)
    rw [e1] at cf ⊢
    rw [if_neg (by decide)]
    have cg := cf
    rw [e2]
    have H1 := hid h1
    clear h1 ha e1 e2 cf
    go_enter Try.func27, Try.ntmps27
    go_wp2_with (go_at_call 51; refine (cg _).mono ?_; rintro e w' ⟨rfl, rfl⟩)
    go_ret
    exact ⟨rfl, To.new HK.out ((To.refl H1.out).more (by omega))⟩
  · have cf := fun f => h1.from_err T f (by rw [e1]; decide)
    rw [e1] at cf ⊢
    rw [if_neg (by decide)]
    have cg := cf
    rw [e2]
    have H1 := hid h1
    clear h1 h0 e1 e2 cf
    go_enter Try.func27, Try.ntmps27
    go_wp2_with (go_at_call 51; refine (cg _).mono ?_; rintro e w' ⟨rfl, rfl⟩)
    go_ret
    exact ⟨rfl, To.new HK.out ((To.refl H1.out).more (by omega))⟩
  · rw [e1, if_pos rfl]
    have b0 : ((w.alloc (.cells #[.pointer (some ⟨xb, 0, none⟩)] 23)).alloc (.cells #[.int .i64 T] 3)).cell? ⟨w.heap.size, 0, none⟩ = some (.pointer (some ⟨xb, 0, none⟩)) := by have e := old_at (one_at w (.pointer (some ⟨xb, 0, none⟩)) 23) (.cells #[.int .i64 T] 3); (try simp only [World.size_alloc] at e); exact e
    have b1 : ((w.alloc (.cells #[.pointer (some ⟨xb, 0, none⟩)] 23)).alloc (.cells #[.int .i64 T] 3)).cell? ⟨(w.heap.size + 1), 0, none⟩ = some (.int .i64 T) := by have e := one_at (w.alloc (.cells #[.pointer (some ⟨xb, 0, none⟩)] 23)) (.int .i64 T) 3; (try simp only [World.size_alloc] at e); exact e
    have n1 : ∀ i, w.heap.size + i ∉ [xb, rb] := fun i => by simp; omega
    have n0 : w.heap.size ∉ [xb, rb] := n1 0
    have cb := leave1_ok h1 hs T t1 w.heap.size (w.heap.size + 1) (prN L T 31 : Nat) b0 b1 n0 (n1 1)
    have cf := h1.from_ok T 52 #[.pointer (some ⟨w.heap.size, 0, none⟩), .pointer (some ⟨w.heap.size + 1, 0, none⟩)] (fun w' => To ((w.alloc (.cells #[.pointer (some ⟨xb, 0, none⟩)] 23)).alloc (.cells #[.int .i64 T] 3)) w' xb rb q _ _ s 6) t1 h0 (fun args => enters_of Try.func52 (by kernel_rfl) rfl args) cb
    have cg := cf
    clear h1 h0 e1 cf cb b0 b1 n1 n0
    rw [e2] at cg ⊢
    go_enter Try.func27, Try.ntmps27
    go_wp2_with fail
    refine cg.mono ?_
    rintro e w1 ⟨rfl, hT⟩
    have HT := hid hT
    clear hT cg
    go_wp2
    go_ret
    refine ⟨rfl, To.new HK.out (To.more ?_ (by omega : 6 ≤ 12))⟩
    simp only [Int.toNat_natCast]
    exact HT.out
set_option maxRecDepth 100000 in
set_option maxHeartbeats 1000000 in
theorem Tn.yield (h : Tn w xb rb q S L s) (hs : s ≤ 890000) (t : Int) : Calls Try.prog 28 #[.pointer (some ⟨xb, 0, none⟩), .int .i64 t] w fun e w' => e = .returned (.int .i64 (remE L t)) ∧ To w w' xb rb q (S) (yiL L t) s 12 := by
  have HK := hid ((Kp.alloc w (.cells #[.pointer (some ⟨xb, 0, none⟩)] 23) []).trans (Kp.alloc _ (.cells #[.int .i64 t] 3) []))
  have h1 := h.same HK.out
  have hl := h.lt
  clear h
  unfold yiL
  rcases rem_cases L t with ⟨ha, e1, e2⟩ | ⟨T, rfl, t1, ⟨h0, e1, e2⟩ | ⟨h0, e1, e2⟩⟩
  · have cf := fun f => h1.from_err t f (by rw [e1]; decide)
    rw [e1] at cf ⊢
    rw [if_neg (by decide)]
    have cg := cf
    have H1 := hid h1
    clear h1 ha e1 e2 cf
    go_enter Try.func28, Try.ntmps28
    go_wp2_with (go_at_call 51; refine (cg _).mono ?_; rintro e w' ⟨rfl, rfl⟩)
    go_ret
    exact ⟨rfl, To.new HK.out ((To.refl H1.out).more (by omega))⟩
  · have cf := fun f => h1.from_err T f (by rw [e1]; decide)
    rw [e1] at cf ⊢
    rw [if_neg (by decide)]
    have cg := cf
    have H1 := hid h1
    clear h1 h0 e1 e2 cf
    go_enter Try.func28, Try.ntmps28
    go_wp2_with (go_at_call 51; refine (cg _).mono ?_; rintro e w' ⟨rfl, rfl⟩)
    go_ret
    exact ⟨rfl, To.new HK.out ((To.refl H1.out).more (by omega))⟩
  · rw [e1, if_pos rfl]
    have b0 : ((w.alloc (.cells #[.pointer (some ⟨xb, 0, none⟩)] 23)).alloc (.cells #[.int .i64 T] 3)).cell? ⟨w.heap.size, 0, none⟩ = some (.pointer (some ⟨xb, 0, none⟩)) := by have e := old_at (one_at w (.pointer (some ⟨xb, 0, none⟩)) 23) (.cells #[.int .i64 T] 3); (try simp only [World.size_alloc] at e); exact e
    have b1 : ((w.alloc (.cells #[.pointer (some ⟨xb, 0, none⟩)] 23)).alloc (.cells #[.int .i64 T] 3)).cell? ⟨(w.heap.size + 1), 0, none⟩ = some (.int .i64 T) := by have e := one_at (w.alloc (.cells #[.pointer (some ⟨xb, 0, none⟩)] 23)) (.int .i64 T) 3; (try simp only [World.size_alloc] at e); exact e
    have n1 : ∀ i, w.heap.size + i ∉ [xb, rb] := fun i => by simp; omega
    have n0 : w.heap.size ∉ [xb, rb] := n1 0
    have cb := yield1_ok h1 hs T w.heap.size (w.heap.size + 1) (prN L T 31 : Nat) b0 b1
    have cf := h1.from_ok T 54 #[.pointer (some ⟨w.heap.size, 0, none⟩), .pointer (some ⟨w.heap.size + 1, 0, none⟩)] (fun w' => To ((w.alloc (.cells #[.pointer (some ⟨xb, 0, none⟩)] 23)).alloc (.cells #[.int .i64 T] 3)) w' xb rb q _ _ s 12) t1 h0 (fun args => enters_of Try.func54 (by kernel_rfl) rfl args) cb
    have cg := cf
    have HN := hid (prI_nat L T)
    clear h1 h0 e1 cf cb b0 b1 n1 n0
    go_enter Try.func28, Try.ntmps28
    go_wp2_with fail
    refine cg.mono ?_
    rintro e w1 ⟨rfl, hT⟩
    have HT := hid hT
    clear hT cg
    go_wp2
    go_ret
    refine ⟨rfl, To.new HK.out (To.more ?_ (by omega : 12 ≤ 12))⟩
    simp only [HN.out]
    exact HT.out
set_option maxRecDepth 100000 in
set_option maxHeartbeats 1000000 in
theorem Tn.put (h : Tn w xb rb q S L s) (hs : s ≤ 890000) (t p : Int) (r : Bool) : Calls Try.prog 29 #[.pointer (some ⟨xb, 0, none⟩), .int .i64 t, .int .i64 p, .bool r] w fun e w' => e = .returned (.int .i64 (mvE L t p)) ∧ To w w' xb rb q (puS q S L t p r) (puL L t p) s 12 := by
  have HK := hid ((((Kp.alloc w (.cells #[.pointer (some ⟨xb, 0, none⟩)] 23) []).trans (Kp.alloc _ (.cells #[.int .i64 t] 3) [])).trans (Kp.alloc _ (.cells #[.int .i64 p] 3) [])).trans (Kp.alloc _ (.cells #[.bool r] 4) []))
  have h1 := h.same HK.out
  have hl := h.lt
  clear h
  by_cases hp : 1 ≤ p ∧ p ≤ 31
  case neg =>
    have e0 : mvE L t p = 2 := by unfold mvE; rw [if_neg hp]
    have cf := fun f => h1.to_arg t p f hp
    have H1 := hid h1
    unfold puL puS
    rw [e0]
    clear h1 hp e0
    go_enter Try.func29, Try.ntmps29
    go_wp2_with (go_at_call 56; refine (cf _).mono ?_; rintro e w' ⟨rfl, rfl⟩)
    go_ret
    exact ⟨rfl, To.new HK.out ((To.refl H1.out).more (by omega))⟩
  have e0 : mvE L t p = remE L t := by unfold mvE; rw [if_pos hp]
  unfold puL puS
  rw [e0]
  rcases rem_cases L t with ⟨ha, e1, e2⟩ | ⟨T, rfl, t1, ⟨h0, e1, e2⟩ | ⟨h0, e1, e2⟩⟩
  · have cf := fun f => h1.from_err t f (by rw [e1]; decide)
    rw [e1] at cf ⊢
    rw [if_neg (by decide)]
    have cg := fun f => h1.to_go t p 2 f (fun w' => w' = ((((w.alloc (.cells #[.pointer (some ⟨xb, 0, none⟩)] 23)).alloc (.cells #[.int .i64 t] 3)).alloc (.cells #[.int .i64 p] 3)).alloc (.cells #[.bool r] 4))) hp (cf f)
    have H1 := hid h1
    clear h1 ha e1 e2 cf
    go_enter Try.func29, Try.ntmps29
    go_wp2_with (go_at_call 56; refine (cg _).mono ?_; rintro e w' ⟨rfl, rfl⟩)
    go_ret
    exact ⟨rfl, To.new HK.out ((To.refl H1.out).more (by omega))⟩
  · have cf := fun f => h1.from_err T f (by rw [e1]; decide)
    rw [e1] at cf ⊢
    rw [if_neg (by decide)]
    have cg := fun f => h1.to_go T p 6 f (fun w' => w' = ((((w.alloc (.cells #[.pointer (some ⟨xb, 0, none⟩)] 23)).alloc (.cells #[.int .i64 T] 3)).alloc (.cells #[.int .i64 p] 3)).alloc (.cells #[.bool r] 4))) hp (cf f)
    have H1 := hid h1
    clear h1 h0 e1 e2 cf
    go_enter Try.func29, Try.ntmps29
    go_wp2_with (go_at_call 56; refine (cg _).mono ?_; rintro e w' ⟨rfl, rfl⟩)
    go_ret
    exact ⟨rfl, To.new HK.out ((To.refl H1.out).more (by omega))⟩
  · rw [e1, if_pos rfl, if_pos rfl]
    have b0 : ((((w.alloc (.cells #[.pointer (some ⟨xb, 0, none⟩)] 23)).alloc (.cells #[.int .i64 T] 3)).alloc (.cells #[.int .i64 p] 3)).alloc (.cells #[.bool r] 4)).cell? ⟨w.heap.size, 0, none⟩ = some (.pointer (some ⟨xb, 0, none⟩)) := by have e := old_at (old_at (old_at (one_at w (.pointer (some ⟨xb, 0, none⟩)) 23) (.cells #[.int .i64 T] 3)) (.cells #[.int .i64 p] 3)) (.cells #[.bool r] 4); (try simp only [World.size_alloc] at e); exact e
    have b1 : ((((w.alloc (.cells #[.pointer (some ⟨xb, 0, none⟩)] 23)).alloc (.cells #[.int .i64 T] 3)).alloc (.cells #[.int .i64 p] 3)).alloc (.cells #[.bool r] 4)).cell? ⟨(w.heap.size + 1), 0, none⟩ = some (.int .i64 T) := by have e := old_at (old_at (one_at (w.alloc (.cells #[.pointer (some ⟨xb, 0, none⟩)] 23)) (.int .i64 T) 3) (.cells #[.int .i64 p] 3)) (.cells #[.bool r] 4); (try simp only [World.size_alloc] at e); exact e
    have b2 : ((((w.alloc (.cells #[.pointer (some ⟨xb, 0, none⟩)] 23)).alloc (.cells #[.int .i64 T] 3)).alloc (.cells #[.int .i64 p] 3)).alloc (.cells #[.bool r] 4)).cell? ⟨(w.heap.size + 2), 0, none⟩ = some (.int .i64 p) := by have e := old_at (one_at ((w.alloc (.cells #[.pointer (some ⟨xb, 0, none⟩)] 23)).alloc (.cells #[.int .i64 T] 3)) (.int .i64 p) 3) (.cells #[.bool r] 4); (try simp only [World.size_alloc] at e); exact e
    have b3 : ((((w.alloc (.cells #[.pointer (some ⟨xb, 0, none⟩)] 23)).alloc (.cells #[.int .i64 T] 3)).alloc (.cells #[.int .i64 p] 3)).alloc (.cells #[.bool r] 4)).cell? ⟨(w.heap.size + 3), 0, none⟩ = some (.bool r) := by have e := one_at (((w.alloc (.cells #[.pointer (some ⟨xb, 0, none⟩)] 23)).alloc (.cells #[.int .i64 T] 3)).alloc (.cells #[.int .i64 p] 3)) (.bool r) 4; (try simp only [World.size_alloc] at e); exact e
    have n1 : ∀ i, w.heap.size + i ∉ [xb, rb] := fun i => by simp; omega
    have n0 : w.heap.size ∉ [xb, rb] := n1 0
    have cb := put1_ok h1 hs T t1 p r w.heap.size (w.heap.size + 1) (w.heap.size + 2) (w.heap.size + 3) (prN L T 31 : Nat) b0 b1 b2 b3 n0 (n1 1) (n1 3)
    have cf := h1.from_ok T 57 #[.pointer (some ⟨w.heap.size, 0, none⟩), .pointer (some ⟨w.heap.size + 1, 0, none⟩), .pointer (some ⟨w.heap.size + 2, 0, none⟩), .pointer (some ⟨w.heap.size + 3, 0, none⟩)] (fun w' => To ((((w.alloc (.cells #[.pointer (some ⟨xb, 0, none⟩)] 23)).alloc (.cells #[.int .i64 T] 3)).alloc (.cells #[.int .i64 p] 3)).alloc (.cells #[.bool r] 4)) w' xb rb q _ _ s 12) t1 h0 (fun args => enters_of Try.func57 (by kernel_rfl) rfl args) cb
    have cg := h1.to_go T p 0 _ _ hp cf
    clear h1 h0 e1 cf cb b0 b1 b2 b3 n1 n0
    go_enter Try.func29, Try.ntmps29
    go_wp2_with fail
    refine cg.mono ?_
    rintro e w1 ⟨rfl, hT⟩
    have HT := hid hT
    clear hT cg
    go_wp2
    go_ret
    refine ⟨rfl, To.new HK.out (To.more ?_ (by omega : 12 ≤ 12))⟩
    simp only [Int.toNat_natCast]
    exact HT.out
set_option maxRecDepth 100000 in
set_option maxHeartbeats 1000000 in
theorem Tn.move (h : Tn w xb rb q S L s) (hs : s ≤ 890000) (t p : Int) : Calls Try.prog 30 #[.pointer (some ⟨xb, 0, none⟩), .int .i64 t, .int .i64 p] w fun e w' => e = .returned (.int .i64 (mvE L t p)) ∧ To w w' xb rb q (S) (moL L t p) s 12 := by
  have HK := hid (((Kp.alloc w (.cells #[.pointer (some ⟨xb, 0, none⟩)] 23) []).trans (Kp.alloc _ (.cells #[.int .i64 t] 3) [])).trans (Kp.alloc _ (.cells #[.int .i64 p] 3) []))
  have h1 := h.same HK.out
  have hl := h.lt
  clear h
  by_cases hp : 1 ≤ p ∧ p ≤ 31
  case neg =>
    have e0 : mvE L t p = 2 := by unfold mvE; rw [if_neg hp]
    have cf := fun f => h1.to_arg t p f hp
    have H1 := hid h1
    unfold moL
    rw [e0]
    clear h1 hp e0
    go_enter Try.func30, Try.ntmps30
    go_wp2_with (go_at_call 56; refine (cf _).mono ?_; rintro e w' ⟨rfl, rfl⟩)
    go_ret
    exact ⟨rfl, To.new HK.out ((To.refl H1.out).more (by omega))⟩
  have e0 : mvE L t p = remE L t := by unfold mvE; rw [if_pos hp]
  unfold moL
  rw [e0]
  rcases rem_cases L t with ⟨ha, e1, e2⟩ | ⟨T, rfl, t1, ⟨h0, e1, e2⟩ | ⟨h0, e1, e2⟩⟩
  · have cf := fun f => h1.from_err t f (by rw [e1]; decide)
    rw [e1] at cf ⊢
    rw [if_neg (by decide)]
    have cg := fun f => h1.to_go t p 2 f (fun w' => w' = (((w.alloc (.cells #[.pointer (some ⟨xb, 0, none⟩)] 23)).alloc (.cells #[.int .i64 t] 3)).alloc (.cells #[.int .i64 p] 3))) hp (cf f)
    have H1 := hid h1
    clear h1 ha e1 e2 cf
    go_enter Try.func30, Try.ntmps30
    go_wp2_with (go_at_call 56; refine (cg _).mono ?_; rintro e w' ⟨rfl, rfl⟩)
    go_ret
    exact ⟨rfl, To.new HK.out ((To.refl H1.out).more (by omega))⟩
  · have cf := fun f => h1.from_err T f (by rw [e1]; decide)
    rw [e1] at cf ⊢
    rw [if_neg (by decide)]
    have cg := fun f => h1.to_go T p 6 f (fun w' => w' = (((w.alloc (.cells #[.pointer (some ⟨xb, 0, none⟩)] 23)).alloc (.cells #[.int .i64 T] 3)).alloc (.cells #[.int .i64 p] 3))) hp (cf f)
    have H1 := hid h1
    clear h1 h0 e1 e2 cf
    go_enter Try.func30, Try.ntmps30
    go_wp2_with (go_at_call 56; refine (cg _).mono ?_; rintro e w' ⟨rfl, rfl⟩)
    go_ret
    exact ⟨rfl, To.new HK.out ((To.refl H1.out).more (by omega))⟩
  · rw [e1, if_pos rfl]
    have b0 : (((w.alloc (.cells #[.pointer (some ⟨xb, 0, none⟩)] 23)).alloc (.cells #[.int .i64 T] 3)).alloc (.cells #[.int .i64 p] 3)).cell? ⟨w.heap.size, 0, none⟩ = some (.pointer (some ⟨xb, 0, none⟩)) := by have e := old_at (old_at (one_at w (.pointer (some ⟨xb, 0, none⟩)) 23) (.cells #[.int .i64 T] 3)) (.cells #[.int .i64 p] 3); (try simp only [World.size_alloc] at e); exact e
    have b1 : (((w.alloc (.cells #[.pointer (some ⟨xb, 0, none⟩)] 23)).alloc (.cells #[.int .i64 T] 3)).alloc (.cells #[.int .i64 p] 3)).cell? ⟨(w.heap.size + 1), 0, none⟩ = some (.int .i64 T) := by have e := old_at (one_at (w.alloc (.cells #[.pointer (some ⟨xb, 0, none⟩)] 23)) (.int .i64 T) 3) (.cells #[.int .i64 p] 3); (try simp only [World.size_alloc] at e); exact e
    have b2 : (((w.alloc (.cells #[.pointer (some ⟨xb, 0, none⟩)] 23)).alloc (.cells #[.int .i64 T] 3)).alloc (.cells #[.int .i64 p] 3)).cell? ⟨(w.heap.size + 2), 0, none⟩ = some (.int .i64 p) := by have e := one_at ((w.alloc (.cells #[.pointer (some ⟨xb, 0, none⟩)] 23)).alloc (.cells #[.int .i64 T] 3)) (.int .i64 p) 3; (try simp only [World.size_alloc] at e); exact e
    have n1 : ∀ i, w.heap.size + i ∉ [xb, rb] := fun i => by simp; omega
    have n0 : w.heap.size ∉ [xb, rb] := n1 0
    have cb := move1_ok h1 hs T p w.heap.size (w.heap.size + 1) (w.heap.size + 2) (prN L T 31 : Nat) b0 b1 b2
    have cf := h1.from_ok T 58 #[.pointer (some ⟨w.heap.size + 2, 0, none⟩), .pointer (some ⟨w.heap.size, 0, none⟩), .pointer (some ⟨w.heap.size + 1, 0, none⟩)] (fun w' => To (((w.alloc (.cells #[.pointer (some ⟨xb, 0, none⟩)] 23)).alloc (.cells #[.int .i64 T] 3)).alloc (.cells #[.int .i64 p] 3)) w' xb rb q _ _ s 12) t1 h0 (fun args => enters_of Try.func58 (by kernel_rfl) rfl args) cb
    have cg := h1.to_go T p 0 _ _ hp cf
    have HN := hid (prI_nat L T)
    clear h1 h0 e1 cf cb b0 b1 b2 n1 n0
    go_enter Try.func30, Try.ntmps30
    go_wp2_with fail
    refine cg.mono ?_
    rintro e w1 ⟨rfl, hT⟩
    have HT := hid hT
    clear hT cg
    go_wp2
    go_ret
    refine ⟨rfl, To.new HK.out (To.more ?_ (by omega : 12 ≤ 12))⟩
    simp only [HN.out]
    exact HT.out
set_option maxRecDepth 100000 in
set_option maxHeartbeats 1000000 in
theorem Tn.lift (h : Tn w xb rb q S L s) (hs : s ≤ 890000) (t p : Int) : Calls Try.prog 31 #[.pointer (some ⟨xb, 0, none⟩), .int .i64 t, .int .i64 p] w fun e w' => e = .returned (.int .i64 (mvE L t p)) ∧ To w w' xb rb q (S) (liL L t p) s 12 := by
  have HK := hid (((Kp.alloc w (.cells #[.pointer (some ⟨xb, 0, none⟩)] 23) []).trans (Kp.alloc _ (.cells #[.int .i64 t] 3) [])).trans (Kp.alloc _ (.cells #[.int .i64 p] 3) []))
  have h1 := h.same HK.out
  have hl := h.lt
  clear h
  by_cases hp : 1 ≤ p ∧ p ≤ 31
  case neg =>
    have e0 : mvE L t p = 2 := by unfold mvE; rw [if_neg hp]
    have cf := fun f => h1.to_arg t p f hp
    have H1 := hid h1
    unfold liL
    rw [e0]
    clear h1 hp e0
    go_enter Try.func31, Try.ntmps31
    go_wp2_with (go_at_call 56; refine (cf _).mono ?_; rintro e w' ⟨rfl, rfl⟩)
    go_ret
    exact ⟨rfl, To.new HK.out ((To.refl H1.out).more (by omega))⟩
  have e0 : mvE L t p = remE L t := by unfold mvE; rw [if_pos hp]
  unfold liL
  rw [e0]
  rcases rem_cases L t with ⟨ha, e1, e2⟩ | ⟨T, rfl, t1, ⟨h0, e1, e2⟩ | ⟨h0, e1, e2⟩⟩
  · have cf := fun f => h1.from_err t f (by rw [e1]; decide)
    rw [e1] at cf ⊢
    rw [if_neg (by decide)]
    have cg := fun f => h1.to_go t p 2 f (fun w' => w' = (((w.alloc (.cells #[.pointer (some ⟨xb, 0, none⟩)] 23)).alloc (.cells #[.int .i64 t] 3)).alloc (.cells #[.int .i64 p] 3))) hp (cf f)
    have H1 := hid h1
    clear h1 ha e1 e2 cf
    go_enter Try.func31, Try.ntmps31
    go_wp2_with (go_at_call 56; refine (cg _).mono ?_; rintro e w' ⟨rfl, rfl⟩)
    go_ret
    exact ⟨rfl, To.new HK.out ((To.refl H1.out).more (by omega))⟩
  · have cf := fun f => h1.from_err T f (by rw [e1]; decide)
    rw [e1] at cf ⊢
    rw [if_neg (by decide)]
    have cg := fun f => h1.to_go T p 6 f (fun w' => w' = (((w.alloc (.cells #[.pointer (some ⟨xb, 0, none⟩)] 23)).alloc (.cells #[.int .i64 T] 3)).alloc (.cells #[.int .i64 p] 3))) hp (cf f)
    have H1 := hid h1
    clear h1 h0 e1 e2 cf
    go_enter Try.func31, Try.ntmps31
    go_wp2_with (go_at_call 56; refine (cg _).mono ?_; rintro e w' ⟨rfl, rfl⟩)
    go_ret
    exact ⟨rfl, To.new HK.out ((To.refl H1.out).more (by omega))⟩
  · rw [e1, if_pos rfl]
    have b0 : (((w.alloc (.cells #[.pointer (some ⟨xb, 0, none⟩)] 23)).alloc (.cells #[.int .i64 T] 3)).alloc (.cells #[.int .i64 p] 3)).cell? ⟨w.heap.size, 0, none⟩ = some (.pointer (some ⟨xb, 0, none⟩)) := by have e := old_at (old_at (one_at w (.pointer (some ⟨xb, 0, none⟩)) 23) (.cells #[.int .i64 T] 3)) (.cells #[.int .i64 p] 3); (try simp only [World.size_alloc] at e); exact e
    have b1 : (((w.alloc (.cells #[.pointer (some ⟨xb, 0, none⟩)] 23)).alloc (.cells #[.int .i64 T] 3)).alloc (.cells #[.int .i64 p] 3)).cell? ⟨(w.heap.size + 1), 0, none⟩ = some (.int .i64 T) := by have e := old_at (one_at (w.alloc (.cells #[.pointer (some ⟨xb, 0, none⟩)] 23)) (.int .i64 T) 3) (.cells #[.int .i64 p] 3); (try simp only [World.size_alloc] at e); exact e
    have b2 : (((w.alloc (.cells #[.pointer (some ⟨xb, 0, none⟩)] 23)).alloc (.cells #[.int .i64 T] 3)).alloc (.cells #[.int .i64 p] 3)).cell? ⟨(w.heap.size + 2), 0, none⟩ = some (.int .i64 p) := by have e := one_at ((w.alloc (.cells #[.pointer (some ⟨xb, 0, none⟩)] 23)).alloc (.cells #[.int .i64 T] 3)) (.int .i64 p) 3; (try simp only [World.size_alloc] at e); exact e
    have n1 : ∀ i, w.heap.size + i ∉ [xb, rb] := fun i => by simp; omega
    have n0 : w.heap.size ∉ [xb, rb] := n1 0
    have cb := lift1_ok h1 hs T p w.heap.size (w.heap.size + 1) (w.heap.size + 2) (prN L T 31 : Nat) b0 b1 b2
    have cf := h1.from_ok T 60 #[.pointer (some ⟨w.heap.size + 2, 0, none⟩), .pointer (some ⟨w.heap.size, 0, none⟩), .pointer (some ⟨w.heap.size + 1, 0, none⟩)] (fun w' => To (((w.alloc (.cells #[.pointer (some ⟨xb, 0, none⟩)] 23)).alloc (.cells #[.int .i64 T] 3)).alloc (.cells #[.int .i64 p] 3)) w' xb rb q _ _ s 12) t1 h0 (fun args => enters_of Try.func60 (by kernel_rfl) rfl args) cb
    have cg := h1.to_go T p 0 _ _ hp cf
    have HN := hid (prI_nat L T)
    clear h1 h0 e1 cf cb b0 b1 b2 n1 n0
    go_enter Try.func31, Try.ntmps31
    go_wp2_with fail
    refine cg.mono ?_
    rintro e w1 ⟨rfl, hT⟩
    have HT := hid hT
    clear hT cg
    go_wp2
    go_ret
    refine ⟨rfl, To.new HK.out (To.more ?_ (by omega : 12 ≤ 12))⟩
    simp only [HN.out]
    exact HT.out
end
end Go.Proofs.Ytclbphnelfacfaa
