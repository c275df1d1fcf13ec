/- do: one step; the two stay the same. Kinds that read and reset, a copy that goes on, and any other. -/
import Derived.Test.YtihlejphjdelfaaTwin
namespace Go.Proofs.Ytihlejphjdelfaa
open Go.RowKit
set_option linter.unusedVariables false
set_option linter.unusedSectionVars false

/-- The program's arena and the document's have the same bytes and cost, and share no memory. -/
def Two (w : World) (rb mb rr mr n : Nat) (f : Nat → Int) (c : Int) : Prop := Ar w rb mb n f c ∧ Rf w rr mr n f c ∧ mb ≠ mr
theorem Two.apart {w : World} {rb mb rr mr n : Nat} {f : Nat → Int} {c : Int} (h : Two w rb mb rr mr n f c) : rb ≠ mb ∧ rr ≠ mr ∧ rb ≠ rr ∧ rb ≠ mr ∧ mb ≠ rr ∧ mb ≠ mr := by
  obtain ⟨ha, hr, hne⟩ := h
  refine ⟨ha.ne, hr.ne, ?_, ?_, ?_, hne⟩
  · obtain ⟨_, _, a, b, -⟩ := ha
    obtain ⟨_, _, a', b', -⟩ := hr
    rintro rfl
    rw [a] at a'
    simp at a'
  · obtain ⟨_, _, a, b, -⟩ := ha
    obtain ⟨_, _, a', b', -⟩ := hr
    rintro rfl
    rw [a] at b'
    simp at b'
  · obtain ⟨_, _, a, b, -⟩ := ha
    obtain ⟨_, _, a', b', -⟩ := hr
    rintro rfl
    rw [b] at a'
    simp at a'
theorem Two.keep {w w' : World} {rb mb rr mr n : Nat} {f : Nat → Int} {c : Int} (h : Two w rb mb rr mr n f c) (hk : Kp w w' []) : Two w' rb mb rr mr n f c :=
  ⟨h.1.keep hk (by simp) (by simp), h.2.1.keep hk (by simp) (by simp), h.2.2⟩

/-- What a step leaves: the two the same, nothing else written; the arena that goes on is the same one, or a new one. -/
def Went (w w' : World) (rb mb rr mr n : Nat) (c : Int) (e : Ending) : Prop :=
  ∃ rb' mb' f' c', e = .returned (.tuple #[.pointer (some ⟨rb', 0, none⟩), .pointer (some ⟨rr, 0, none⟩), .bool true]) ∧ Two w' rb' mb' rr mr n f' c' ∧ 0 ≤ c' ∧ c' ≤ c + 1 ∧
    ((rb' = rb ∧ mb' = mb) ∨ (w.heap.size ≤ rb' ∧ w.heap.size ≤ mb')) ∧ Kp w w' [rb, mb, rr, mr]

/-- A step, boxed. -/
def Sx (w : World) (N : Nat) (k a m x : Int) (v : Value) : Prop := w.heap[N]? = some (.cells #[.int .i64 k, .int .i64 a, .int .i64 m, .int .u32 x, v] 38 (0, 0))
theorem Sx.cells {w : World} {N : Nat} {k a m x : Int} {v : Value} (h : Sx w N k a m x v) : w.cell? ⟨N, 0, none⟩ = some (.int .i64 k) ∧ w.cell? ⟨N, 1, none⟩ = some (.int .i64 a) ∧ w.cell? ⟨N, 2, none⟩ = some (.int .i64 m) ∧ w.cell? ⟨N, 3, none⟩ = some (.int .u32 x) ∧ w.cell? ⟨N, 4, none⟩ = some v := by
  have h' : w.heap[N]? = some (.cells #[.int .i64 k, .int .i64 a, .int .i64 m, .int .u32 x, v] 38 (0, 0)) := h
  refine ⟨?_, ?_, ?_, ?_, ?_⟩ <;> simp [World.cell?, h']
theorem Sx.keep {w w' : World} {N : Nat} {k a m x : Int} {v : Value} (h : Sx w N k a m x v) {rows : List Nat} (hk : Kp w w' rows) (hn : N ∉ rows) : Sx w' N k a m x v := (hk.block N (lt_of_block h) hn).trans h
theorem Sx.made (w : World) (k a m x : Int) (v : Value) : Sx (w.alloc (.cells #[.int .i64 k, .int .i64 a, .int .i64 m, .int .u32 x, v] 38)) w.heap.size k a m x v := heap_alloc_new w _

section
variable (w : World) (rb mb rr mr n : Nat) (f : Nat → Int) (c : Int) (h : Two w rb mb rr mr n f c) (hg : Good n) (hc0 : 0 ≤ c) (hc1 : c < 1000000)
include h hg hc0 hc1

set_option maxRecDepth 100000 in
set_option maxHeartbeats 1000000 in
theorem do_other (k a m x : Int) (ao : Option Addr) (ln cp : Nat) (h1 : (k == 1) = false) (h2 : (k == 2) = false) (h3 : (k == 3) = false) (h4 : (k == 4) = false) (h5 : (k == 5) = false) (h6 : (k == 6) = false) :
    Calls Try.prog 13 #[.pointer (some ⟨rb, 0, none⟩), .pointer (some ⟨rr, 0, none⟩), .agg #[.int .i64 k, .int .i64 a, .int .i64 m, .int .u32 x, .slice ao ln cp]] w fun e w' => Went w w' rb mb rr mr n c e := by
  have H := hid h
  clear h
  go_enter Try.func13, Try.ntmps13
  go_wp2
  go_ret3
  exact ⟨rb, mb, f, c, rfl, H.out.keep (Kp.alloc _ _ _), hc0, by omega, .inl ⟨rfl, rfl⟩, Kp.alloc _ _ _⟩

set_option maxRecDepth 100000 in
set_option maxHeartbeats 1000000 in
theorem do_reset (a m x : Int) (ao : Option Addr) (ln cp : Nat) :
    Calls Try.prog 13 #[.pointer (some ⟨rb, 0, none⟩), .pointer (some ⟨rr, 0, none⟩), .agg #[.int .i64 5, .int .i64 a, .int .i64 m, .int .u32 x, .slice ao ln cp]] w fun e w' => Went w w' rb mb rr mr n c e := by
  have H := hid h
  clear h
  go_enter Try.func13, Try.ntmps13
  go_wp2_with fail
  have H1 := hid (H.out.keep (Kp.alloc w (.cells #[.int .i64 5, .int .i64 a, .int .i64 m, .int .u32 x, .slice ao ln cp] 38) []))
  refine (reset_ok _ rb mb n f c H1.out.1).mono ?_
  rintro e w1 ⟨rfl, hA1, hK1⟩
  have hap := H.out.apart
  have HA1 := hid hA1
  have HR1 := hid (H1.out.2.1.keep hK1 (by simp; omega) (by simp; omega))
  have HK1 := hid (Kp.past (Kp.alloc w (.cells #[.int .i64 5, .int .i64 a, .int .i64 m, .int .u32 x, .slice ao ln cp] 38) [rb, mb, rr, mr]) hK1 (by simp))
  clear hA1 hK1 hap
  go_wp2_with fail
  refine (rreset_ok w1 rr mr n f c HR1.out).mono ?_
  rintro e w2 ⟨rfl, hR2, hK2⟩
  have hap := H.out.apart
  have HA2 := hid (HA1.out.keep hK2 (by simp; omega) (by simp; omega))
  have HR2 := hid hR2
  have HK2 := hid (HK1.out.past hK2 (by simp))
  clear hR2 hK2 hap
  go_wp2
  go_ret3
  exact ⟨rb, mb, f, 0, rfl, ⟨HA2.out, HR2.out, H.out.2.2⟩, by omega, by omega, .inl ⟨rfl, rfl⟩, HK2.out⟩

set_option maxRecDepth 100000 in
set_option maxHeartbeats 1000000 in
theorem do_get_ok (o : Nat) (m x : Int) (ao : Option Addr) (ln cp : Nat) (ho : o % 4 = 0) (hfit : o + 4 ≤ n) :
    Calls Try.prog 13 #[.pointer (some ⟨rb, 0, none⟩), .pointer (some ⟨rr, 0, none⟩), .agg #[.int .i64 1, .int .i64 (o : Nat), .int .i64 m, .int .u32 x, .slice ao ln cp]] w fun e w' => Went w w' rb mb rr mr n c e := by
  have H := hid h
  have HN := hid (show n ≤ 65536 by have := hg.2.1; omega)
  clear h
  go_enter Try.func13, Try.ntmps13
  go_wp2_with fail
  have H1 := hid (H.out.keep (Kp.alloc w (.cells #[.int .i64 1, .int .i64 (o : Int), .int .i64 m, .int .u32 x, .slice ao ln cp] 38) []))
  refine (get_ok _ rb mb n o f c H1.out.1 HN.out hc0 (by omega) ho hfit).mono ?_
  rintro e w1 ⟨rfl, hA1, hK1⟩
  have hap := H.out.apart
  have hlt := H.out.1.lt
  have HA1 := hid hA1
  have HR1 := hid (H1.out.2.1.keep hK1 (by simp; omega) (by simp; omega))
  have HK1 := hid (Kp.past (Kp.alloc w (.cells #[.int .i64 1, .int .i64 (o : Int), .int .i64 m, .int .u32 x, .slice ao ln cp] 38) [rb, mb, rr, mr]) hK1 (by simp))
  have qs := ((Sx.made w 1 o m x (.slice ao ln cp)).keep hK1 (by simp; omega)).cells
  clear hA1 hK1 hap hlt
  go_wp2_with fail
  refine (rget_ok w1 rr mr n o f c HR1.out HN.out hc0 (by omega) ho hfit).mono ?_
  rintro e w2 ⟨rfl, hR2, hK2⟩
  have hap := H.out.apart
  have HA2 := hid (HA1.out.keep hK2 (by simp; omega) (by simp; omega))
  have HR2 := hid hR2
  have HK2 := hid (HK1.out.past hK2 (by simp))
  clear hR2 hK2 hap qs
  go_wp2
  go_ret3
  exact ⟨rb, mb, f, c + 1, rfl, ⟨HA2.out, HR2.out, H.out.2.2⟩, by omega, by omega, .inl ⟨rfl, rfl⟩, HK2.out⟩

set_option maxRecDepth 100000 in
set_option maxHeartbeats 1000000 in
theorem do_get_no (a m x : Int) (ao : Option Addr) (ln cp : Nat) (ha : a ≤ 9223372036854775807) (hb : hasW n a = false) :
    Calls Try.prog 13 #[.pointer (some ⟨rb, 0, none⟩), .pointer (some ⟨rr, 0, none⟩), .agg #[.int .i64 1, .int .i64 a, .int .i64 m, .int .u32 x, .slice ao ln cp]] w fun e w' => Went w w' rb mb rr mr n c e := by
  have H := hid h
  have HN := hid (show n ≤ 65536 by have := hg.2.1; omega)
  clear h
  have HB := hid hb
  have HG := hid (show n % 4 = 0 by have := hg.2.2; omega)
  clear hb
  go_enter Try.func13, Try.ntmps13
  go_wp2_with fail
  have H1 := hid (H.out.keep (Kp.alloc w (.cells #[.int .i64 1, .int .i64 a, .int .i64 m, .int .u32 x, .slice ao ln cp] 38) []))
  refine (get_no _ rb mb n f c a H1.out.1 HN.out ha HB.out).mono ?_
  rintro e w1 ⟨rfl, hK1⟩
  have hlt := H.out.1.lt
  have HA1 := hid (H1.out.keep hK1)
  have HK1 := hid (Kp.past (Kp.alloc w (.cells #[.int .i64 1, .int .i64 a, .int .i64 m, .int .u32 x, .slice ao ln cp] 38) [rb, mb, rr, mr]) hK1 (by simp))
  have qs := ((Sx.made w 1 a m x (.slice ao ln cp)).keep hK1 (by simp)).cells
  clear hK1 hlt
  go_wp2_with fail
  refine (rget_no w1 rr mr n f c a HA1.out.2.1 HN.out HG.out HB.out).mono ?_
  rintro e w2 ⟨rfl, rfl⟩
  clear qs
  go_wp2
  go_ret3
  exact ⟨rb, mb, f, c, rfl, HA1.out, by omega, by omega, .inl ⟨rfl, rfl⟩, HK1.out⟩

set_option maxRecDepth 100000 in
set_option maxHeartbeats 1000000 in
theorem do_copy (a m x : Int) (ao : Option Addr) (ln cp : Nat) :
    Calls Try.prog 13 #[.pointer (some ⟨rb, 0, none⟩), .pointer (some ⟨rr, 0, none⟩), .agg #[.int .i64 6, .int .i64 a, .int .i64 m, .int .u32 x, .slice ao ln cp]] w fun e w' => Went w w' rb mb rr mr n c e := by
  have H := hid h
  have HN := hid (show n ≤ 65536 by have := hg.2.1; omega)
  clear h
  have HP := hid (show 256 ≤ n by have := hg.1; omega)
  go_enter Try.func13, Try.ntmps13
  go_wp2_with fail
  have H1 := hid (H.out.keep (Kp.alloc w (.cells #[.int .i64 6, .int .i64 a, .int .i64 m, .int .u32 x, .slice ao ln cp] 38) []))
  have hA := H.out.1.lt
  have hR := H.out.2.1.lt
  refine (copy_ok _ rb mb n f c H1.out.1 (by have := HP.out; omega) HN.out).mono ?_
  rintro e w1 ⟨r2, m2, rfl, hA1, hr2, hm2, hK1⟩
  have HZ := hid (show w.heap.size < r2 ∧ w.heap.size < m2 by simp at hr2 hm2; omega)
  have H2 := hid (H1.out.keep hK1)
  have HA1 := hid hA1
  have HK1 := hid (Kp.past (Kp.alloc w (.cells #[.int .i64 6, .int .i64 a, .int .i64 m, .int .u32 x, .slice ao ln cp] 38) [rb, mb, rr, mr]) hK1 (by simp))
  clear hA1 hK1 hr2 hm2
  go_wp2_with fail
  refine (same_ok w1 r2 m2 n f c rb mb n f c HA1.out H2.out.1).mono ?_
  rintro e w' ⟨rfl, rfl⟩
  rw [beq_self_eq_true]
  go_wp2_with fail
  refine (set_ok w' rb mb n 0 f c 305419896 H2.out.1 HN.out hc0 (by omega) (by decide) (by decide) (by decide) (by have := HP.out; omega)).mono ?_
  rintro e w2 ⟨rfl, hA2, hK2⟩
  have hap := H.out.apart
  have HA2 := hid hA2
  have HB2 := hid (HA1.out.keep hK2 (by have := HZ.out; simp; omega) (by have := HZ.out; simp; omega))
  have HR2 := hid (H2.out.2.1.keep hK2 (by simp; omega) (by simp; omega))
  have HK2 := hid (HK1.out.past hK2 (by simp))
  clear hA2 hK2 hap
  go_wp2_with fail
  have hbs : Bs (w2.alloc (.cells #[.int .u8 9] 5)) (.slice (some ⟨w2.heap.size, 0, none⟩) 1 1) [9] := Bs.of_owns (base := 0) (World.ownsRow_lit (base := 0) (e := 5) (size := 1) w2 #[.int .u8 9] 1 (Nat.zero_le _) (by unfold maxLen; omega) rfl)
  refine (write_ok _ rb mb n 100 _ _ _ [9] (HA2.out.keep (Kp.alloc _ _ []) (by simp) (by simp)) HN.out hbs (by intro y hy; simp at hy; omega) (by have := HP.out; simp; omega)).mono ?_
  rintro e w3 ⟨rfl, -, hK3'⟩
  have hap := H.out.apart
  have hK3 : Kp w2 w3 [mb] := (Kp.alloc w2 (.cells #[.int .u8 9] 5) [mb]).trans hK3'
  have HB3 := hid (HB2.out.keep hK3 (by have := HZ.out; simp; omega) (by have := HZ.out; simp; omega))
  have HR3 := hid (HR2.out.keep hK3 (by simp; omega) (by simp; omega))
  have HK3 := hid (HK2.out.past hK3 (by simp))
  have HM := hid (show m2 ≠ mr by have := HZ.out; omega)
  clear hK3 hK3' hap hbs
  go_wp2
  go_ret3
  exact ⟨r2, m2, f, c, rfl, ⟨HB3.out, HR3.out, HM.out⟩, by omega, by omega, .inr ⟨by have := HZ.out; omega, by have := HZ.out; omega⟩, HK3.out⟩

set_option maxRecDepth 100000 in
set_option maxHeartbeats 1000000 in
theorem do_set_ok (o : Nat) (m x : Int) (ao : Option Addr) (ln cp : Nat) (hx0 : 0 ≤ x) (hx1 : x < 4294967296) (ho : o % 4 = 0) (hfit : o + 4 ≤ n) :
    Calls Try.prog 13 #[.pointer (some ⟨rb, 0, none⟩), .pointer (some ⟨rr, 0, none⟩), .agg #[.int .i64 2, .int .i64 (o : Nat), .int .i64 m, .int .u32 x, .slice ao ln cp]] w fun e w' => Went w w' rb mb rr mr n c e := by
  have H := hid h
  have HN := hid (show n ≤ 65536 by have := hg.2.1; omega)
  clear h
  go_enter Try.func13, Try.ntmps13
  go_wp2_with fail
  obtain ⟨W1, hW1⟩ : ∃ W1, W1 = w.alloc (.cells #[.int .i64 2, .int .i64 (o : Int), .int .i64 m, .int .u32 x, .slice ao ln cp] 38) := ⟨_, rfl⟩
  rw [← hW1]
  have hkW : Kp w W1 [] := by rw [hW1]; exact Kp.alloc _ _ _
  have H1 := hid (H.out.keep hkW)
  have qs := (Sx.made w 2 o m x (.slice ao ln cp)).cells
  rw [← hW1] at qs
  have hst := And.intro qs.2.1 qs.2.2.2.1
  have hap := H.out.apart
  have hA := H.out.1.lt
  have hR := H.out.2.1.lt
  have HK1 := hid hkW
  clear hW1 qs hkW
  go_region_held (fun w' => w'.cell? ⟨w.heap.size, 1, none⟩ = some (.int .i64 (o : Nat)) ∧ w'.cell? ⟨w.heap.size, 3, none⟩ = some (.int .u32 x))
    (first
      | exact keep2 hst (Kp.drew _ []) (by simp)
      | exact keep2 hst (((Kp.drew _ _).trans (hk4.mono (r2 := [rb, mb, rr, mr]) (by simp))).trans (hk5.mono (by simp))) (by simp; omega)
      | exact keep2 hst ((Kp.drew _ _).trans (hk4.mono (r2 := [rb, mb, rr, mr]) (by simp))) (by simp; omega))
    (first
      | (go_at_call 16; refine (set_ok _ rb mb n o f c x (H1.out.keep (Kp.drew _ [])).1 HN.out hc0 (by omega) hx0 hx1 ho hfit).mono ?_; rintro e w4 ⟨rfl, hA4, hk4⟩)
      | (go_at_call 9; go_in)
      | (go_at_call 25; refine (rset_ok _ rr mr n o f c x (H1.out.2.1.keep ((Kp.drew _ _).trans hk4) (by simp; omega) (by simp; omega)) HN.out hc0 (by omega) hx0 hx1 ho hfit).mono ?_; rintro e w5 ⟨rfl, hR5, hk5⟩))
  have HA5 := hid (hA4.keep hk5 (by simp; omega) (by simp; omega))
  have HR5 := hid hR5
  have HK5 := hid (((HK1.out.mono (r2 := [rb, mb, rr, mr]) (by simp)).trans ((Kp.drew _ _).trans (hk4.mono (by simp)))).trans (hk5.mono (by simp)))
  clear hA4 hk4 hR5 hk5
  go_wp2
  go_ret3
  exact ⟨rb, mb, _, c + 1, rfl, ⟨HA5.out, HR5.out, H.out.2.2⟩, by omega, by omega, .inl ⟨rfl, rfl⟩, HK5.out⟩

set_option maxRecDepth 100000 in
set_option maxHeartbeats 1000000 in
theorem do_set_no (a m x : Int) (ao : Option Addr) (ln cp : Nat) (ha : a ≤ 9223372036854775807) (hb : hasW n a = false) :
    Calls Try.prog 13 #[.pointer (some ⟨rb, 0, none⟩), .pointer (some ⟨rr, 0, none⟩), .agg #[.int .i64 2, .int .i64 a, .int .i64 m, .int .u32 x, .slice ao ln cp]] w fun e w' => Went w w' rb mb rr mr n c e := by
  have H := hid h
  have HN := hid (show n ≤ 65536 by have := hg.2.1; omega)
  clear h
  have HB := hid hb
  have HG := hid (show n % 4 = 0 by have := hg.2.2; omega)
  clear hb
  go_enter Try.func13, Try.ntmps13
  go_wp2_with fail
  obtain ⟨W1, hW1⟩ : ∃ W1, W1 = w.alloc (.cells #[.int .i64 2, .int .i64 a, .int .i64 m, .int .u32 x, .slice ao ln cp] 38) := ⟨_, rfl⟩
  rw [← hW1]
  have hkW : Kp w W1 [] := by rw [hW1]; exact Kp.alloc _ _ _
  have H1 := hid (H.out.keep hkW)
  have qs := (Sx.made w 2 a m x (.slice ao ln cp)).cells
  rw [← hW1] at qs
  have hst := And.intro qs.2.1 qs.2.2.2.1
  have HK1 := hid hkW
  clear hW1 qs hkW
  go_region_held (fun w' => w'.cell? ⟨w.heap.size, 1, none⟩ = some (.int .i64 a) ∧ w'.cell? ⟨w.heap.size, 3, none⟩ = some (.int .u32 x))
    (first
      | exact keep2 hst (Kp.drew _ []) (by simp)
      | exact keep2 hst ((Kp.drew _ []).trans hk4) (by simp))
    (first
      | (go_at_call 16; refine (set_no _ rb mb n f c a x (H1.out.keep (Kp.drew _ [])).1 HN.out ha HB.out).mono ?_; rintro e w4 ⟨rfl, hk4⟩)
      | (go_at_call 9; go_in)
      | (go_at_call 25; refine (rset_no _ rr mr n f c a (H1.out.2.1.keep ((Kp.drew _ []).trans hk4) (by simp) (by simp)) HN.out HG.out HB.out x).mono ?_; rintro e w5 ⟨rfl, rfl⟩))
  have H5 := hid (H1.out.keep ((Kp.drew _ []).trans hk4))
  have HK5 := hid (HK1.out.trans ((Kp.drew _ []).trans hk4))
  clear hk4
  go_wp2
  go_ret3
  exact ⟨rb, mb, f, c, rfl, H5.out, by omega, by omega, .inl ⟨rfl, rfl⟩, HK5.out.nil⟩

end
end Go.Proofs.Ytihlejphjdelfaa
