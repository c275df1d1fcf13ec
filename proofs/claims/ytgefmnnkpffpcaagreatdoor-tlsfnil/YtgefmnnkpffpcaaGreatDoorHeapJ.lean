/- A heap in memory; its words are looked at and written. -/
import Derived.Test.YtgefmnnkpffpcaaGreatDoorPcsJ
namespace Go.Proofs.YtgefmnnkpffpcaaGreatDoor
open Go.RowKit Go.Maps

/-- An arena whose words are g. -/
def Aw (w : World) (rb mb n : Nat) (g : Mem) (c : Int) : Prop := ∃ f, Ar w rb mb n f c ∧ ∀ o, o % 4 = 0 → o + 4 ≤ n → wordAt f o = g o
/-- A map of ints. -/
def Mp (w : World) (b : Nat) (P : Pcs) : Prop := w.ownsMap (H := Unit) Tryz.prog 3 (plainElem Tryz.prog 3) b P.length (dat P)
/-- The table by which a word's lowest bit is found; it stands in block 0. -/
def tab32 : List Int := [0, 1, 28, 2, 29, 14, 24, 3, 30, 22, 20, 15, 25, 17, 4, 8, 31, 27, 13, 23, 21, 19, 16, 7, 26, 12, 18, 6, 11, 5, 10, 9]
def Tb (w : World) : Prop := ∀ i, i < 32 → w.cell? ⟨0, i, none⟩ = some (.int .u8 (tab32.getD i 0))
theorem Tb.lt {w : World} (h : Tb w) : 0 < w.heap.size := World.block_lt_of_cell? w _ (h 0 (by decide))
theorem Tb.keep {w w' : World} (h : Tb w) {rows : List Nat} (hk : Kp w w' rows) (h0 : 0 ∉ rows) : Tb w' :=
  fun i hi => (World.cell?_of_block (a := ⟨0, i, none⟩) (hk.block 0 h.lt h0)).trans (h i hi)
/-- What a heap is in memory: its struct, the arena's two blocks, the map. -/
structure Hp (w : World) (hb rb mb pb n : Nat) (g : Mem) (c : Int) (P : Pcs) : Prop where
  hh : w.heap[hb]? = some (.cells #[.pointer (some ⟨rb, 0, none⟩), .map (some pb)] 67 (0, 0))
  aw : Aw w rb mb n g c
  mp : Mp w pb P
  nb : n ≤ 65536
  c0 : 0 ≤ c
  tb : Tb w
  nz : hb ≠ 0 ∧ rb ≠ 0 ∧ mb ≠ 0 ∧ pb ≠ 0

theorem Ar.byte {w : World} {rb mb n : Nat} {f : Nat → Int} {c : Int} (h : Ar w rb mb n f c) : ∀ i, i < n → 0 ≤ f i ∧ f i < 256 := by
  obtain ⟨cap, cur, hr, hm, a1, a2, a3, a4⟩ := h
  exact fun i hi => (a4 i hi).2
theorem wordAt_range {f : Nat → Int} {n o : Nat} (h : ∀ i, i < n → 0 ≤ f i ∧ f i < 256) (ho : o + 4 ≤ n) : 0 ≤ wordAt f o ∧ wordAt f o < 4294967296 := by
  have := h o (by omega); have := h (o + 1) (by omega); have := h (o + 2) (by omega); have := h (o + 3) (by omega)
  unfold wordAt word; omega
theorem Aw.range {w : World} {rb mb n : Nat} {g : Mem} {c : Int} (h : Aw w rb mb n g c) (o : Int) : 0 ≤ rd n g o ∧ rd n g o < 4294967296 := by
  obtain ⟨f, ha, hg⟩ := h
  unfold rd
  by_cases h : hasW n o = true
  · rw [if_pos h]
    have := of_decide_eq_true h
    rw [← hg o.toNat (by omega) (by omega)]
    exact wordAt_range ha.byte (by omega)
  · rw [if_neg h]; omega

theorem over_word {f : Nat → Int} {o p : Nat} {x : Int} (ho : o % 4 = 0) (hp : p % 4 = 0) : wordAt (over f o (bytes4 x)) p = if p = o then x else wordAt f p := by
  have hl : (bytes4 x).length = 4 := rfl
  by_cases h : p = o
  · subst h
    rw [if_pos rfl]
    unfold wordAt over
    simp only [hl]
    rw [if_pos (by omega), if_pos (by omega), if_pos (by omega), if_pos (by omega)]
    simp only [Nat.sub_self, Nat.add_sub_cancel_left, bytes4, List.getD_cons_zero, List.getD_cons_succ, word]
    omega
  · rw [if_neg h]
    unfold wordAt over
    simp only [hl]
    rw [if_neg (by omega), if_neg (by omega), if_neg (by omega), if_neg (by omega)]

theorem Aw.keep {w w' : World} {rb mb n : Nat} {g : Mem} {c : Int} (h : Aw w rb mb n g c) {rows : List Nat} (hk : Kp w w' rows) (h1 : rb ∉ rows) (h2 : mb ∉ rows) : Aw w' rb mb n g c := by
  obtain ⟨f, ha, hg⟩ := h
  exact ⟨f, ha.keep hk h1 h2, hg⟩
theorem Kp.grownRow {w w1 : World} {b : Nat} (h : w.grownBy w1 (some b)) : Kp w w1 [b] := ⟨h.os, h.tape, h.output, h.size, fun k hk hn => h.block k hk (by simp at hn ⊢; exact hn)⟩
theorem Kp.toGrown {w w1 : World} {rows : List Nat} (h : Kp w w1 rows) {b : Nat} (hb : b < w.heap.size) (hn : b ∉ rows) : w1.heap[b]? = w.heap[b]? := h.block b hb hn

theorem Mp.keep {w w' : World} {b : Nat} {P : Pcs} (h : Mp w b P) {rows : List Nat} (hk : Kp w w' rows) (h1 : b ∉ rows) : Mp w' b P := by
  obtain ⟨es, clock, hb, F, hs, hD⟩ := h
  exact ⟨es, clock, (hk.block b (lt_of_block hb) h1).trans hb, F, hs, hD⟩
theorem Mp.of_owns {w : World} {b n : Nat} {P : Pcs} (h : w.ownsMap (H := Unit) Tryz.prog 3 (plainElem Tryz.prog 3) b n (dat P)) : Mp w b P := by
  obtain ⟨es, clock, hb, F, hs, hD⟩ := h
  refine ⟨es, clock, hb, F, ?_, hD⟩
  have := congrArg Maps.size hD
  rw [dat_size, size_eq, length_sorted] at this
  simp at this
  omega
theorem keyed3 : Keyed Tryz.prog 3 := int_keyed Tryz.underlying3
theorem Mp.rises {w : World} {b : Nat} {P : Pcs} (h : Mp w b P) : Rises P := rises_of_canon (World.ownsMap.canon h keyed3)

variable {w w' : World} {hb rb mb pb n : Nat} {g : Mem} {c : Int} {P : Pcs}
theorem Hp.lt (h : Hp w hb rb mb pb n g c P) : hb < w.heap.size ∧ rb < w.heap.size ∧ mb < w.heap.size ∧ pb < w.heap.size := by
  obtain ⟨f, ha, -⟩ := h.aw
  obtain ⟨es, clock, hb, -⟩ := h.mp
  exact ⟨lt_of_block h.hh, ha.lt.1, ha.lt.2, lt_of_block hb⟩
theorem Hp.ne (h : Hp w hb rb mb pb n g c P) : hb ≠ rb ∧ hb ≠ mb ∧ hb ≠ pb ∧ rb ≠ mb ∧ rb ≠ pb ∧ mb ≠ pb := by
  obtain ⟨f, ⟨cap, cur, hr, hm, a1, a2, a3, a4⟩, -⟩ := h.aw
  obtain ⟨es, clock, hp, -⟩ := h.mp
  have hh := h.hh
  refine ⟨?_, ?_, ?_, ?_, ?_, ?_⟩
  all_goals (rintro rfl; simp_all)
theorem Hp.keep (h : Hp w hb rb mb pb n g c P) {rows : List Nat} (hk : Kp w w' rows) (h0 : hb ∉ rows) (h1 : rb ∉ rows) (h2 : mb ∉ rows) (h3 : pb ∉ rows) (h4 : 0 ∉ rows) : Hp w' hb rb mb pb n g c P :=
  ⟨(hk.block hb h.lt.1 h0).trans h.hh, h.aw.keep hk h1 h2, h.mp.keep hk h3, h.nb, h.c0, h.tb.keep hk h4, h.nz⟩
theorem Hp.same (h : Hp w hb rb mb pb n g c P) (hk : Kp w w' []) : Hp w' hb rb mb pb n g c P := h.keep hk (by simp) (by simp) (by simp) (by simp) (by simp)
theorem Hp.range (h : Hp w hb rb mb pb n g c P) (o : Int) : 0 ≤ rd n g o ∧ rd n g o < 4294967296 := h.aw.range o
theorem Hp.c0cell (h : Hp w hb rb mb pb n g c P) : w.cell? ⟨hb, 0, none⟩ = some (.pointer (some ⟨rb, 0, none⟩)) := cell_two0 h.hh
theorem Hp.c1cell (h : Hp w hb rb mb pb n g c P) : w.cell? ⟨hb, 1, none⟩ = some (.map (some pb)) := cell_two1 h.hh
/-- Behind a call that wrote the arena alone. -/
theorem Hp.turn (h : Hp w hb rb mb pb n g c P) (hk : Kp w w' [rb, mb]) {g' : Mem} {c' : Int} (ha : Aw w' rb mb n g' c') (hc : 0 ≤ c') : Hp w' hb rb mb pb n g' c' P := by
  have hne := h.ne
  have hnz := h.nz
  exact ⟨(hk.block hb h.lt.1 (by simp; omega)).trans h.hh, ha, h.mp.keep hk (by simp; omega), h.nb, hc, h.tb.keep hk (by simp; omega), h.nz⟩
end Go.Proofs.YtgefmnnkpffpcaaGreatDoor

/- word and setWord: a word of the heap's arena, or nothing where there is none. -/
namespace Go.Proofs.YtgefmnnkpffpcaaGreatDoor
open Go.RowKit Go.Maps

/-- Behind a call: the heap's words and pieces, what it cost at most, what else may have changed. -/
def Went (w w' : World) (hb rb mb pb n : Nat) (g : Mem) (P : Pcs) (c k : Int) (rows : List Nat) : Prop :=
  ∃ c', c ≤ c' ∧ c' ≤ c + k ∧ Hp w' hb rb mb pb n g c' P ∧ Kp w w' rows

theorem upd_words {f : Nat → Int} {g : Mem} {n o : Nat} {x : Int} (hg : ∀ p, p % 4 = 0 → p + 4 ≤ n → wordAt f p = g p) (ho : o % 4 = 0) :
    ∀ p, p % 4 = 0 → p + 4 ≤ n → wordAt (over f o (bytes4 x)) p = upd g o x p := by
  intro p hp hn
  rw [over_word ho hp]
  unfold upd
  by_cases h : p = o
  · rw [if_pos h, if_pos h]
  · rw [if_neg h, if_neg h, hg p hp hn]

set_option maxRecDepth 100000 in
theorem word_any (w : World) (hb rb mb pb n : Nat) (g : Mem) (c : Int) (P : Pcs) (o : Int) (h : Hp w hb rb mb pb n g c P) (hc : c < 4611686018427387904) (h4 : o ≤ 9223372036854775807) :
    Calls Tryz.prog 73 #[.pointer (some ⟨hb, 0, none⟩), .int .i64 o] w fun e w' => e = .returned (.int .i64 (rd n g o)) ∧ Went w w' hb rb mb pb n g P c 1 [rb] := by
  have hc0 := h.c0cell
  have hcc := h.c0
  have hn := h.nb
  have H := hid h
  obtain ⟨f, ha, hg⟩ := h.aw
  have HA := hid ha
  have HG := hid hg
  clear h ha hg
  by_cases hw : hasW n o = true
  · have hr := hid (show rd n g o = wordAt f o.toNat by
      unfold rd; rw [if_pos hw]; have := of_decide_eq_true hw; exact (HG.out _ (by omega) (by omega)).symm)
    have hd := of_decide_eq_true hw
    obtain ⟨o', rfl⟩ := Int.eq_ofNat_of_zero_le hd.1
    obtain ⟨-, hd1, hd2⟩ := hd
    have hrange := wordAt_range (o := o') HA.out.byte (by omega)
    clear hw
    go_enter Tryz.func73, Tryz.ntmps73
    go_wp2_with fail
    refine (get_ok w rb mb n o' f c HA.out hn hcc (by omega) (by omega) (by omega)).mono ?_
    rintro e w1 ⟨rfl, hA1, hK1⟩
    have HA1 := hid hA1
    have HK1 := hid hK1
    clear hA1 hK1 hc0
    go_wp2
    go_ret
    refine ⟨by rw [hr.out]; rfl, c + 1, by omega, by omega, H.out.turn (HK1.out.mono (by simp)) ⟨f, HA1.out, HG.out⟩ (by omega), HK1.out⟩
  · have hw' : hasW n o = false := by simpa using hw
    have hr := hid (show rd n g o = 0 by unfold rd; rw [hw']; rfl)
    clear hw
    have HW := hid hw'
    clear hw'
    go_enter Tryz.func73, Tryz.ntmps73
    go_wp2_with fail
    refine (get_no w rb mb n f c o HA.out hn h4 HW.out).mono ?_
    rintro e w1 ⟨rfl, hK1⟩
    have HK1 := hid hK1
    clear hK1 hc0
    go_wp2
    go_ret
    exact ⟨by rw [hr.out]; rfl, c, by omega, by omega, H.out.same HK1.out, HK1.out.nil⟩

set_option maxRecDepth 100000 in
theorem setWord_any (w : World) (hb rb mb pb n : Nat) (g : Mem) (c : Int) (P : Pcs) (o x : Int) (h : Hp w hb rb mb pb n g c P) (hc : c < 4611686018427387904) (h4 : o ≤ 9223372036854775807) (hx0 : 0 ≤ x) (hx1 : x < 4294967296) :
    Calls Tryz.prog 103 #[.pointer (some ⟨hb, 0, none⟩), .int .i64 o, .int .i64 x] w fun e w' => e = .returned (.tuple #[]) ∧ Went w w' hb rb mb pb n (wr n g o x) P c 1 [rb, mb] := by
  have hc0 := h.c0cell
  have hcc := h.c0
  have hn := h.nb
  have H := hid h
  obtain ⟨f, ha, hg⟩ := h.aw
  have HA := hid ha
  have HG := hid hg
  clear h ha hg
  by_cases hw : hasW n o = true
  · have hr := hid (show wr n g o x = upd g o.toNat x by unfold wr; rw [if_pos hw])
    have hd := of_decide_eq_true hw
    obtain ⟨o', rfl⟩ := Int.eq_ofNat_of_zero_le hd.1
    obtain ⟨-, hd1, hd2⟩ := hd
    clear hw
    go_enter Tryz.func103, Tryz.ntmps103
    go_wp2_with fail
    refine (set_ok w rb mb n o' f c x HA.out hn hcc (by omega) hx0 hx1 (by omega) (by omega)).mono ?_
    rintro e w1 ⟨rfl, hA1, hK1⟩
    have HA1 := hid hA1
    have HK1 := hid hK1
    clear hA1 hK1 hc0
    go_wp2
    refine bodyPost_end (results_none rfl _ _ _) rfl ?_
    refine ⟨rfl, c + 1, by omega, by omega, H.out.turn HK1.out ⟨_, HA1.out, ?_⟩ (by omega), HK1.out⟩
    rw [hr.out]
    exact upd_words HG.out (by omega)
  · have hw' : hasW n o = false := by simpa using hw
    have hr := hid (show wr n g o x = g by unfold wr; rw [hw']; rfl)
    clear hw
    have HW := hid hw'
    clear hw'
    go_enter Tryz.func103, Tryz.ntmps103
    go_wp2_with fail
    refine (set_no w rb mb n f c o x HA.out hn h4 HW.out).mono ?_
    rintro e w1 ⟨rfl, hK1⟩
    have HK1 := hid hK1
    clear hK1 hc0
    go_wp2
    refine bodyPost_end (results_none rfl _ _ _) rfl ?_
    rw [hr.out]
    exact ⟨rfl, c, by omega, by omega, H.out.same HK1.out, HK1.out.nil⟩
end Go.Proofs.YtgefmnnkpffpcaaGreatDoor
