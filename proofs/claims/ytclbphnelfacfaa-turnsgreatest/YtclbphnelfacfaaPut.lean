/- Tail, Head. -/
import Derived.Test.YtclbphnelfacfaaMake
import Derived.Shelf.Abstract
namespace Go.Proofs.Ytclbphnelfacfaa
open Go.RowKit Go.Shelf

theorem ofInt32 (x : Nat) (h : x < 4294967296) : (BitVec.ofInt 32 (x : Int)).toNat = x := by
  rw [BitVec.toNat_ofInt]; omega
theorem wrap32 (x : Nat) (h : x < 4294967296) : IntKind.u32.wrap (x : Int) = x := IntWalk.u32_in _ ⟨by omega, by omega⟩
theorem pow_cast (k : Nat) : (2 : Int) ^ k = ((2 ^ k : Nat) : Int) := by push_cast; rfl
theorem bit_lt {k : Nat} (hk : k < 32) : 2 ^ k < 4294967296 := Nat.pow_lt_pow_right (n := 32) (by decide) hk
theorem shl_bit {k : Nat} (hk : k < 32) : IntKind.u32.wrap (2 ^ k) = 2 ^ k := by
  rw [pow_cast, wrap32 _ (bit_lt hk)]
theorem or_bit {u k : Nat} (hu : u < 2 ^ 32) (hk : k < 32) : bits .or .u32 (u : Int) (2 ^ k) = ((u ||| 1 <<< k : Nat) : Int) := by
  have hp := bit_lt hk
  rw [pow_cast, Nat.one_shiftLeft]
  show IntKind.u32.wrap ((BitVec.ofInt 32 (u : Int) ||| BitVec.ofInt 32 ((2 ^ k : Nat) : Int)).toNat : Int) = _
  rw [BitVec.toNat_or, ofInt32 u (by omega), ofInt32 _ hp]
  exact wrap32 _ (Nat.or_lt_two_pow (n := 32) hu hp)
/-- u without the bit of k. -/
def noBit (u k : Nat) : Nat := u &&& (4294967295 - 2 ^ k)
theorem noBit_lt {u : Nat} (k : Nat) (hu : u < 2 ^ 32) : noBit u k < 2 ^ 32 := Nat.lt_of_le_of_lt Nat.and_le_left hu
theorem not_bit {u k : Nat} (hu : u < 2 ^ 32) (hk : k < 32) : bits .andNot .u32 (u : Int) (2 ^ k) = (noBit u k : Nat) := by
  have hp := bit_lt hk
  rw [pow_cast]
  show IntKind.u32.wrap ((BitVec.ofInt 32 (u : Int) &&& ~~~BitVec.ofInt 32 ((2 ^ k : Nat) : Int)).toNat : Int) = _
  rw [BitVec.toNat_and, BitVec.toNat_not, ofInt32 u (by omega), ofInt32 _ hp]
  exact wrap32 _ (Nat.lt_of_le_of_lt Nat.and_le_left hu)
theorem noBit_testBit {u k : Nat} (hk : k < 32) (q : Nat) (hq : q < 32) : (noBit u k).testBit q = (u.testBit q && !decide (q = k)) := by
  have hp := bit_lt hk
  unfold noBit
  rw [Nat.testBit_and]
  have := Nat.testBit_two_pow_sub_succ (x := 2 ^ k) (n := 32) hp q
  rw [show 2 ^ 32 - (2 ^ k + 1) = 4294967295 - 2 ^ k by omega] at this
  rw [this, Nat.testBit_two_pow]
  by_cases e : k = q
  · subst e; simp
  · have e' : q ≠ k := fun h => e h.symm
    simp [e, e', hq]

set_option maxRecDepth 100000 in
theorem put_arg (w : World) (rb : Nat) (c : Nat → Nat) (u s : Nat) (p t : Int) (f : Value) (h : Rr w rb c u s) (h1 : c 32 ≠ 0) (ha : ¬ ((1 ≤ p ∧ p ≤ 31) ∧ (0 ≤ t ∧ t < 16))) :
    Calls Try.prog 65 #[.pointer (some ⟨rb, 0, none⟩), .int .i64 p, .int .i64 t, f] w fun e w' => e = .returned (.int .i64 2) ∧ w' = w := by
  have cz := zero_ok w rb c u s h h1
  have cp := mayP_any w p
  have ct := mayT_any w t
  clear h
  by_cases hp : 1 ≤ p ∧ p ≤ 31
  · have ht : ¬ (0 ≤ t ∧ t < 16) := fun hh => ha ⟨hp, hh⟩
    rw [show decide (1 ≤ p ∧ p ≤ 31) = true by simp only [hp, and_self, decide_true]] at cp
    rw [show decide (0 ≤ t ∧ t < 16) = false by simp only [ht, decide_false]] at ct
    clear hp ht ha
    go_enter Try.func65, Try.ntmps65
    go_wp2_with (first | (go_at_call 71; refine cz.mono ?_; rintro e w' ⟨rfl, rfl⟩) | (go_at_call 68; refine cp.mono ?_; rintro e w' ⟨rfl, rfl⟩) | (go_at_call 73; refine ct.mono ?_; rintro e w' ⟨rfl, rfl⟩))
    go_ret
    exact ⟨rfl, rfl⟩
  · rw [show decide (1 ≤ p ∧ p ≤ 31) = false by simp only [hp, decide_false]] at cp
    clear hp ha
    go_enter Try.func65, Try.ntmps65
    go_wp2_with (first | (go_at_call 71; refine cz.mono ?_; rintro e w' ⟨rfl, rfl⟩) | (go_at_call 68; refine cp.mono ?_; rintro e w' ⟨rfl, rfl⟩) | (go_at_call 73; refine ct.mono ?_; rintro e w' ⟨rfl, rfl⟩))
    go_ret
    exact ⟨rfl, rfl⟩

set_option maxRecDepth 100000 in
theorem put_state (w : World) (rb : Nat) (c : Nat → Nat) (u s p t : Nat) (f : Value) (h : Rr w rb c u s) (h1 : c 32 ≠ 0) (hp : 1 ≤ p ∧ p ≤ 31) (ht : t < 16) (h0 : c (96 + t) ≠ 0) :
    Calls Try.prog 65 #[.pointer (some ⟨rb, 0, none⟩), .int .i64 p, .int .i64 t, f] w fun e w' => e = .returned (.int .i64 7) ∧ w' = w := by
  have cz := zero_ok w rb c u s h h1
  have cp := mayP_any w p
  have ct := mayT_any w t
  have ck := h.link (96 + t) (by omega)
  have hn : (((c (96 + t) : Nat) : Int) != 0) = true := by simp; omega
  rw [show decide (1 ≤ (p : Int) ∧ (p : Int) ≤ 31) = true by simp; omega] at cp
  rw [show decide (0 ≤ (t : Int) ∧ (t : Int) < 16) = true by simp; omega] at ct
  clear h
  go_enter Try.func65, Try.ntmps65
  go_wp2_with (first | (go_at_call 71; refine cz.mono ?_; rintro e w' ⟨rfl, rfl⟩) | (go_at_call 68; refine cp.mono ?_; rintro e w' ⟨rfl, rfl⟩) | (go_at_call 73; refine ct.mono ?_; rintro e w' ⟨rfl, rfl⟩))
  go_ret
  exact ⟨rfl, rfl⟩

set_option maxRecDepth 100000 in
set_option maxHeartbeats 1000000 in
theorem put_ok (w : World) (rb : Nat) (c : Nat → Nat) (u s s1 p t b k : Nat) (lb : Array Value) (h : Rr w rb c u s) (h1 : c 32 ≠ 0) (hs : s1 ≤ 950000) (hp : 1 ≤ p ∧ p ≤ 31) (ht : t < 16) (h0 : c (96 + t) = 0) (hb : b < 48) (hcb : c b < 48) (hu : u < 2 ^ 32) (hen : ∀ w : World, (callFunc k lb).run Try.prog w = .ok (.enter k lb) w)
    (hcl : Calls Try.prog k lb w fun e w' => e = .returned (.int .i64 (b : Nat)) ∧ Rr w' rb c u s1 ∧ Kp w w' [rb]) :
    Calls Try.prog 65 #[.pointer (some ⟨rb, 0, none⟩), .int .i64 p, .int .i64 t, .func (.func k) #[] lb] w fun e w' => e = .returned (.int .i64 0) ∧ Rr w' rb (upd (ins c b (32 + t) (c b)) (96 + t) p) (u ||| 1 <<< p) (s1 + 5) ∧ Kp w w' [rb] := by
  have cz := zero_ok w rb c u s h h1
  have cp := mayP_any w p
  have ct := mayT_any w t
  have ck := h.link (96 + t) (by omega)
  rw [h0] at ck
  rw [show decide (1 ≤ (p : Int) ∧ (p : Int) ≤ 31) = true by simp; omega] at cp
  rw [show decide (0 ≤ (t : Int) ∧ (t : Int) < 16) = true by simp; omega] at ct
  have HU := hid hu
  clear h hu
  go_enter Try.func65, Try.ntmps65
  go_wp2_with (first | (go_at_call 71; refine cz.mono ?_; rintro e w' ⟨rfl, rfl⟩) | (go_at_call 68; refine cp.mono ?_; rintro e w' ⟨rfl, rfl⟩) | (go_at_call 73; refine ct.mono ?_; rintro e w' ⟨rfl, rfl⟩))
  refine hcl.mono ?_
  rintro e w1 ⟨rfl, hR1, hK1⟩
  have R1 := hid hR1
  have K1 := hid hK1
  clear hR1 hK1 cz cp ct ck hen hcl
  have cl := lookN_ok w1 rb c u s1 b R1.out (by omega) hb
  go_wp2_with fail
  refine cl.mono ?_
  rintro e w2 ⟨rfl, hR2, hK2⟩
  have R2 := hid hR2
  have K2 := hid hK2
  clear hR2 hK2 cl
  have cj := join_ok w2 rb c u (s1 + 1) b (32 + t) R2.out (by omega) hb (by omega)
  rw [show ((32 + t : Nat) : Int) = 32 + (t : Int) by simp] at cj
  go_wp2_with fail
  refine cj.mono ?_
  rintro e w3 ⟨⟨v3, rfl⟩, hR3, hK3⟩
  have R3 := hid hR3
  have K3 := hid hK3
  clear hR3 hK3 cj
  have cj := join_ok w3 rb _ u (s1 + 1 + 2) (32 + t) (c b) R3.out (by omega) (by omega) hcb
  rw [show ((32 + t : Nat) : Int) = 32 + (t : Int) by simp] at cj
  go_wp2_with fail
  refine cj.mono ?_
  rintro e w4 ⟨⟨v4, rfl⟩, hR4, hK4⟩
  have R4 := hid hR4
  have K4 := hid hK4
  clear hR4 hK4 cj
  have c5 := R4.out.link (96 + t) (by omega)
  have f5 := R4.out.free (96 + t)
  have cu := R4.out.used
  have fu := R4.out.free 112
  have hw := shl_bit (k := p) (by omega)
  have ho := or_bit (u := u) (k := p) HU.out (by omega)
  go_wp2
  go_region
  go_wp2
  go_ret
  refine ⟨rfl, ?_, ?_⟩
  · exact (R4.out.setLink (96 + t) p (by omega)).setUsed _
  · exact (((K1.out.trans K2.out).trans (K3.out.trans K4.out)).trans ((Kp.setCell w4 ⟨rb, 96 + t, none⟩ _).trans (Kp.setCell _ ⟨rb, 112, none⟩ _))).trans (Kp.drew _ _)

theorem keep_box {w : World} {rb : Nat} {c : Nat → Nat} {u s : Nat} (h : Rr w rb c u s) (o : Obj) : Rr (w.alloc o) rb c u s := h.keep (Kp.alloc w o []) (by simp)

theorem Kp.cell2 {w w' : World} {x y : Nat} {u v : Value} {rows : List Nat} (h : w.cell? ⟨x, 0, none⟩ = some u ∧ w.cell? ⟨y, 0, none⟩ = some v) (hk : Kp w w' rows) (hx : x ∉ rows) (hy : y ∉ rows) : w'.cell? ⟨x, 0, none⟩ = some u ∧ w'.cell? ⟨y, 0, none⟩ = some v := ⟨hk.cell h.1 hx, hk.cell h.2 hy⟩

set_option maxRecDepth 100000 in
theorem tail1_ok (w : World) (rb x y : Nat) (c : Nat → Nat) (u s p : Nat) (h : Rr w rb c u s) (hs : s ≤ 1000000) (hp : p < 32) (hxr : x ≠ rb) (hyr : y ≠ rb) (hx : w.cell? ⟨x, 0, none⟩ = some (.pointer (some ⟨rb, 0, none⟩))) (hy : w.cell? ⟨y, 0, none⟩ = some (.int .i64 p)) :
    Calls Try.prog 66 #[.pointer (some ⟨x, 0, none⟩), .pointer (some ⟨y, 0, none⟩)] w fun e w' => e = .returned (.int .i64 (c (48 + p) : Nat)) ∧ Rr w' rb c u (s + 1) ∧ Kp w w' [rb] := by
  have cl := lookP_ok w.drew rb c u s p h hs (by omega)
  have HB := And.intro hx hy
  clear h hx hy
  go_enter Try.func66, Try.ntmps66
  go_wp2
  go_region_held_law (fun w' => w'.cell? ⟨x, 0, none⟩ = some (.pointer (some ⟨rb, 0, none⟩)) ∧ w'.cell? ⟨y, 0, none⟩ = some (.int .i64 p))
    (first
      | exact Kp.cell2 HB (Kp.drew _ []) (by simp) (by simp)
      | exact Kp.cell2 HB ((Kp.drew _ _).trans hK1) (by simp; omega) (by simp; omega))
    ((go_at_call 67; refine cl.mono ?_; rintro e w1 ⟨rfl, hR1, hK1⟩))
  go_wp2
  go_ret
  exact ⟨rfl, hR1, (Kp.drew _ _).trans hK1⟩

set_option maxRecDepth 100000 in
theorem head1_ok (w : World) (y p : Nat) (hy : w.cell? ⟨y, 0, none⟩ = some (.int .i64 p)) :
    Calls Try.prog 80 #[.pointer (some ⟨y, 0, none⟩)] w fun e w' => e = .returned (.int .i64 p) ∧ w' = w := by
  go_enter Try.func80, Try.ntmps80
  go_wp2
  go_ret
  exact ⟨rfl, rfl⟩

theorem cell_one {w : World} {b : Nat} {v : Value} {t : TypeId} (h : w.heap[b]? = some (.cells #[v] t (0, 0))) : w.cell? ⟨b, 0, none⟩ = some v := by simp [World.cell?, h]
theorem two_cells (w : World) (u v : Value) (s t : TypeId) : ((w.alloc (.cells #[u] s)).alloc (.cells #[v] t)).cell? ⟨w.heap.size, 0, none⟩ = some u ∧ ((w.alloc (.cells #[u] s)).alloc (.cells #[v] t)).cell? ⟨w.heap.size + 1, 0, none⟩ = some v := by
  have h1 := heap_alloc_new (w.alloc (.cells #[u] s)) (.cells #[v] t)
  have h2 := heap_alloc_new w (.cells #[u] s)
  simp only [World.size_alloc] at h1
  exact ⟨cell_one ((Below.heap_alloc (w.alloc (.cells #[u] s)) (.cells #[v] t) w.heap.size (by simp)).trans h2), cell_one h1⟩

set_option maxRecDepth 100000 in
theorem tail_arg (w : World) (rb : Nat) (c : Nat → Nat) (u s : Nat) (p t : Int) (h : Rr w rb c u s) (h1 : c 32 ≠ 0) (ha : ¬ ((1 ≤ p ∧ p ≤ 31) ∧ (0 ≤ t ∧ t < 16))) :
    Calls Try.prog 43 #[.pointer (some ⟨rb, 0, none⟩), .int .i64 p, .int .i64 t] w fun e w' => e = .returned (.int .i64 2) ∧ Kp w w' [] := by
  have cp := fun f => put_arg _ rb c u s p t f (keep_box (keep_box h (.cells #[.pointer (some ⟨rb, 0, none⟩)] 55)) (.cells #[.int .i64 p] 3)) h1 ha
  have HK := hid ((Kp.alloc w (.cells #[.pointer (some ⟨rb, 0, none⟩)] 55) []).trans (Kp.alloc _ (.cells #[.int .i64 p] 3) []))
  clear h ha
  go_enter Try.func43, Try.ntmps43
  go_wp2_with (go_at_call 65; refine (cp _).mono ?_; rintro e w' ⟨rfl, rfl⟩)
  go_ret
  exact ⟨rfl, HK.out⟩
set_option maxRecDepth 100000 in
theorem head_arg (w : World) (rb : Nat) (c : Nat → Nat) (u s : Nat) (p t : Int) (h : Rr w rb c u s) (h1 : c 32 ≠ 0) (ha : ¬ ((1 ≤ p ∧ p ≤ 31) ∧ (0 ≤ t ∧ t < 16))) :
    Calls Try.prog 77 #[.pointer (some ⟨rb, 0, none⟩), .int .i64 p, .int .i64 t] w fun e w' => e = .returned (.int .i64 2) ∧ Kp w w' [] := by
  have cp := fun f => put_arg _ rb c u s p t f (keep_box h (.cells #[.int .i64 p] 3)) h1 ha
  clear h ha
  go_enter Try.func77, Try.ntmps77
  go_wp2_with (go_at_call 65; refine (cp _).mono ?_; rintro e w' ⟨rfl, rfl⟩)
  go_ret
  exact ⟨rfl, Kp.alloc _ _ _⟩
set_option maxRecDepth 100000 in
theorem tail_state (w : World) (rb : Nat) (c : Nat → Nat) (u s p t : Nat) (h : Rr w rb c u s) (h1 : c 32 ≠ 0) (hp : 1 ≤ p ∧ p ≤ 31) (ht : t < 16) (h0 : c (96 + t) ≠ 0) :
    Calls Try.prog 43 #[.pointer (some ⟨rb, 0, none⟩), .int .i64 p, .int .i64 t] w fun e w' => e = .returned (.int .i64 7) ∧ Kp w w' [] := by
  have cp := fun f => put_state _ rb c u s p t f (keep_box (keep_box h (.cells #[.pointer (some ⟨rb, 0, none⟩)] 55)) (.cells #[.int .i64 p] 3)) h1 hp ht h0
  have HK := hid ((Kp.alloc w (.cells #[.pointer (some ⟨rb, 0, none⟩)] 55) []).trans (Kp.alloc _ (.cells #[.int .i64 p] 3) []))
  clear h
  go_enter Try.func43, Try.ntmps43
  go_wp2_with (go_at_call 65; refine (cp _).mono ?_; rintro e w' ⟨rfl, rfl⟩)
  go_ret
  exact ⟨rfl, HK.out⟩
set_option maxRecDepth 100000 in
theorem head_state (w : World) (rb : Nat) (c : Nat → Nat) (u s p t : Nat) (h : Rr w rb c u s) (h1 : c 32 ≠ 0) (hp : 1 ≤ p ∧ p ≤ 31) (ht : t < 16) (h0 : c (96 + t) ≠ 0) :
    Calls Try.prog 77 #[.pointer (some ⟨rb, 0, none⟩), .int .i64 p, .int .i64 t] w fun e w' => e = .returned (.int .i64 7) ∧ Kp w w' [] := by
  have cp := fun f => put_state _ rb c u s p t f (keep_box h (.cells #[.int .i64 p] 3)) h1 hp ht h0
  clear h
  go_enter Try.func77, Try.ntmps77
  go_wp2_with (go_at_call 65; refine (cp _).mono ?_; rintro e w' ⟨rfl, rfl⟩)
  go_ret
  exact ⟨rfl, Kp.alloc _ _ _⟩

set_option maxRecDepth 100000 in
theorem tail_ok (w : World) (rb : Nat) (c : Nat → Nat) (u s p t : Nat) (h : Rr w rb c u s) (h1 : c 32 ≠ 0) (hs : s ≤ 900000) (hp : 1 ≤ p ∧ p ≤ 31) (ht : t < 16) (h0 : c (96 + t) = 0) (hb : c (48 + p) < 48) (hcb : c (c (48 + p)) < 48) (hu : u < 2 ^ 32) :
    Calls Try.prog 43 #[.pointer (some ⟨rb, 0, none⟩), .int .i64 p, .int .i64 t] w fun e w' => e = .returned (.int .i64 0) ∧ Rr w' rb (upd (ins c (c (48 + p)) (32 + t) (c (c (48 + p)))) (96 + t) p) (u ||| 1 <<< p) (s + 6) ∧ Kp w w' [rb] := by
  have h2 := keep_box (keep_box h (.cells #[.pointer (some ⟨rb, 0, none⟩)] 55)) (.cells #[.int .i64 p] 3)
  have hlt := h.lt
  have hcs := two_cells w (.pointer (some ⟨rb, 0, none⟩)) (.int .i64 p) 55 3
  have cb := tail1_ok _ rb w.heap.size (w.heap.size + 1) c u s p h2 (by omega) (by omega) (by omega) (by omega) hcs.1 hcs.2
  have cp := put_ok _ rb c u s (s + 1) p t (c (48 + p)) 66 _ h2 h1 (by omega) hp ht h0 hb hcb hu (enters_of Try.func66 (by kernel_rfl) rfl _) cb
  have HK := hid ((Kp.alloc w (.cells #[.pointer (some ⟨rb, 0, none⟩)] 55) [rb]).trans (Kp.alloc _ (.cells #[.int .i64 p] 3) [rb]))
  clear h h2 hcs cb
  go_enter Try.func43, Try.ntmps43
  go_wp2_with fail
  refine cp.mono ?_
  rintro e w' ⟨rfl, hR, hK⟩
  have HR := hid hR
  have HK2 := hid hK
  clear hR hK cp
  go_wp2
  go_ret
  exact ⟨rfl, HR.out, HK.out.trans HK2.out⟩
set_option maxRecDepth 100000 in
theorem head_ok (w : World) (rb : Nat) (c : Nat → Nat) (u s p t : Nat) (h : Rr w rb c u s) (h1 : c 32 ≠ 0) (hs : s ≤ 900000) (hp : 1 ≤ p ∧ p ≤ 31) (ht : t < 16) (h0 : c (96 + t) = 0) (hcb : c p < 48) (hu : u < 2 ^ 32) :
    Calls Try.prog 77 #[.pointer (some ⟨rb, 0, none⟩), .int .i64 p, .int .i64 t] w fun e w' => e = .returned (.int .i64 0) ∧ Rr w' rb (upd (ins c p (32 + t) (c p)) (96 + t) p) (u ||| 1 <<< p) (s + 5) ∧ Kp w w' [rb] := by
  have h2 := keep_box h (.cells #[.int .i64 p] 3)
  have hcs : (w.alloc (.cells #[.int .i64 p] 3)).cell? ⟨w.heap.size, 0, none⟩ = some (.int .i64 p) := cell_one (heap_alloc_new w (.cells #[.int .i64 p] 3))
  have cb := (head1_ok _ w.heap.size p hcs).mono (R' := fun e w' => e = .returned (.int .i64 (p : Nat)) ∧ Rr w' rb c u s ∧ Kp (w.alloc (.cells #[.int .i64 p] 3)) w' [rb]) (by rintro e w' ⟨rfl, rfl⟩; exact ⟨rfl, h2, Kp.refl _ _⟩)
  have cp := put_ok _ rb c u s s p t p 80 _ h2 h1 (by omega) hp ht h0 (by omega) hcb hu (enters_of Try.func80 (by kernel_rfl) rfl _) cb
  have HK := hid (Kp.alloc w (.cells #[.int .i64 p] 3) [rb])
  clear h h2 hcs cb
  go_enter Try.func77, Try.ntmps77
  go_wp2_with fail
  refine cp.mono ?_
  rintro e w' ⟨rfl, hR, hK⟩
  have HR := hid hR
  have HK2 := hid hK
  clear hR hK cp
  go_wp2
  go_ret
  exact ⟨rfl, HR.out, HK.out.trans HK2.out⟩
end Go.Proofs.Ytclbphnelfacfaa
