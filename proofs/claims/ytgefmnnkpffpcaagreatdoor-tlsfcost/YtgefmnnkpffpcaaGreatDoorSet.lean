/- Set: the word's four bytes stand at the offset, the cost is one more. -/
import Derived.Test.YtgefmnnkpffpcaaGreatDoorNoMoreJ
namespace Go.Proofs.YtgefmnnkpffpcaaGreatDoor
open Go.RowKit

theorem Kp.cell {w w' : World} {rows : List Nat} {b i : Nat} {v : Value} (hk : Kp w w' rows) (h : w.cell? ⟨b, i, none⟩ = some v) (hb : b ∉ rows) : w'.cell? ⟨b, i, none⟩ = some v :=
  (World.cell?_of_block (a := ⟨b, i, none⟩) (hk.block b (World.block_lt_of_cell? w _ h) hb)).trans h
theorem keep3 {w w' : World} {rows : List Nat} {a b c i j k : Nat} {u v x : Value} (h : w.cell? ⟨a, i, none⟩ = some u ∧ w.cell? ⟨b, j, none⟩ = some v ∧ w.cell? ⟨c, k, none⟩ = some x) (hk : Kp w w' rows) (hn : a ∉ rows ∧ b ∉ rows ∧ c ∉ rows) :
    w'.cell? ⟨a, i, none⟩ = some u ∧ w'.cell? ⟨b, j, none⟩ = some v ∧ w'.cell? ⟨c, k, none⟩ = some x :=
  ⟨hk.cell h.1 hn.1, hk.cell h.2.1 hn.2.1, hk.cell h.2.2 hn.2.2⟩

theorem row_cells {w : World} {b o : Nat} {l : List Int} {cur : Array Value} {t : TypeId} (h : w.heap[b]? = some (.cells cur t (0, 0))) (hl : ∀ j, j < l.length → cur[o + j]? = some (.int .u8 (l.getD j 0))) :
    ∀ j v, (ub l)[j]? = some v → w.cell? ((⟨b, o, none⟩ : Addr).add j) = some v := by
  intro j v hv
  have hj : j < l.length := by have := (List.getElem?_eq_some_iff.1 hv).1; simpa [ub] using this
  rw [Addr.add_lit]
  have := hl j hj
  simp [ub, List.getElem?_eq_getElem hj] at hv
  simp [World.cell?, h, this, List.getElem?_eq_getElem hj, hv]

theorem ar_set {w' : World} {rb mb n o cap : Nat} {f : Nat → Int} {l : List Int} {cur : Array Value} {c : Int} (hr : w'.heap[rb]? = some (.cells #[.slice (some ⟨mb, 0, none⟩) n cap, .int .i64 c] 85 (0, 0)))
    (hm : w'.heap[mb]? = some (.cells (splice cur.toList o (ub l)).toArray 5 (0, 0))) (hcur : ∀ i, i < n → cur[i]? = some (.int .u8 (f i)) ∧ 0 ≤ f i ∧ f i < 256) (hl : Byt l) (hfit : o + l.length ≤ n) (hn : n ≤ cap) (hcap : cur.size = cap) (hmax : cap ≤ maxLen) :
    Ar w' rb mb n (over f o l) c := by
  obtain ⟨a, b⟩ := splice_get hcur hl hfit (by omega)
  exact ⟨cap, _, hr, hm, hn, by omega, hmax, b⟩

theorem Tryz.size5 : (Tryz.prog.info? 5).map (·.size) = some 1 := by kernel_rfl

set_option maxRecDepth 100000 in
set_option maxHeartbeats 1000000 in
theorem set_ok (w : World) (rb mb n o : Nat) (f : Nat → Int) (c x : Int) (h : Ar w rb mb n f c) (hn : n ≤ 65536) (hc0 : 0 ≤ c) (hc1 : c < 9223372036854775807) (hx0 : 0 ≤ x) (hx1 : x < 4294967296) (ho : o % 4 = 0) (hfit : o + 4 ≤ n) :
    Calls Tryz.prog 71 #[.pointer (some ⟨rb, 0, none⟩), .int .i64 o, .int .u32 x] w fun e w' => e = .returned (.int .i64 0) ∧ Ar w' rb mb n (over f o (bytes4 x)) (c + 1) ∧ Kp w w' [rb, mb] := by
  have hb : hasW n o = true := decide_eq_true ⟨by omega, by omega, by omega⟩
  have HB := hid hb
  have H := hid h
  obtain ⟨cap, cur, hr, hm, hncap, hcap, hmax, hcur⟩ := h
  have hm0 := cell_two0 hr
  have hm1 := cell_two1 hr
  have hf1 := free_two (i := 1) hr
  have hlt := lt_of_block hr
  have HR := hid hr
  have HM := hid hm
  have HC := hid hcur
  have HO := hid ho
  clear hr hm hb hcur ho
  go_enter Tryz.func71, Tryz.ntmps71
  go_wp2_with fail
  refine (set_ref _ w.heap.size (w.heap.size + 1) rb mb n cap o hn (by omega) (cell_past cell_new0) cell_new1 (cell_past (cell_past hm0))).mono ?_
  rintro e w1 ⟨rfl, rfl⟩
  rw [HB.out]
  go_wp2_with fail
  refine (split_any _ x hx0 hx1).mono ?_
  rintro e w2 ⟨rfl, hk2⟩
  have hne := H.out.ne
  have hltm := H.out.lt.2
  obtain ⟨W1, hW1⟩ : ∃ W1, W1 = (((w.setCell ⟨rb, 1, none⟩ (.int .i64 (c + 1))).alloc (.cells #[.pointer (some ⟨rb, 0, none⟩)] 52)).alloc (.cells #[.int .i64 o] 3)) := ⟨_, rfl⟩
  rw [← hW1] at hk2
  have hs1 : W1.heap.size = w.heap.size + 2 := by rw [hW1]; simp
  have hkW : Kp w W1 [rb] := by rw [hW1]; exact ((Kp.setCell w ⟨rb, 1, none⟩ _).trans (Kp.alloc _ _ _)).trans (Kp.alloc _ _ _)
  have hr1 : W1.heap[rb]? = some (.cells #[.slice (some ⟨mb, 0, none⟩) n cap, .int .i64 (c + 1)] 85 (0, 0)) := by
    rw [hW1, Below.heap_alloc _ _ _ (by simp; omega), Below.heap_alloc _ _ _ (by simp; omega), two_setCell1 HR.out]
  have hb0 : W1.cell? ⟨w.heap.size, 0, none⟩ = some (.pointer (some ⟨rb, 0, none⟩)) := by
    have := cell_past (o := .cells #[.int .i64 o] 3) (cell_new0 (w := w.setCell ⟨rb, 1, none⟩ (.int .i64 (c + 1))) (v := .pointer (some ⟨rb, 0, none⟩)) (t := 52))
    rw [hW1]; simpa using this
  have hb1 : W1.cell? ⟨w.heap.size + 1, 0, none⟩ = some (.int .i64 o) := by
    have := cell_new1 (w := w.setCell ⟨rb, 1, none⟩ (.int .i64 (c + 1))) (v := .int .i64 o) (t := 3) (o1 := .cells #[.pointer (some ⟨rb, 0, none⟩)] 52)
    rw [hW1]; simpa using this
  have q0 := hk2.cell hb0 (by simp)
  have q1 := hk2.cell hb1 (by simp)
  have hr2 : w2.heap[rb]? = _ := (hk2.block rb (by omega) (by simp)).trans hr1
  have q2 := cell_two0 hr2
  have hm2 : w2.heap[mb]? = _ := ((hk2.block mb (by omega) (by simp)).trans (hkW.block mb hltm (by simp; omega))).trans HM.out
  have hs2 := hk2.size
  have HK2 := hid (hkW.past hk2 (by simp))
  have HR2 := hid hr2
  have HM2 := hid hm2
  clear hk2 hb0 hb1 hr2 hm2 hr1 hkW hm0 hm1 hf1
  clear hW1
  go_wp2_with fail
  obtain ⟨W3, hW3⟩ : ∃ W3, W3 = w2.alloc (.cells #[.int .u8 (x % 256), .int .u8 (x / 256 % 256), .int .u8 (x / 65536 % 256), .int .u8 (x / 16777216)] 101) := ⟨_, rfl⟩
  rw [← hW3]
  have hkW3 : Kp w2 W3 [] := by rw [hW3]; exact Kp.alloc _ _ _
  have hst := keep3 (And.intro q0 (And.intro q1 q2)) hkW3 (by simp)
  have ha3 : W3.heap[w2.heap.size]? = some (.cells (ub (bytes4 x)).toArray 101 (0, 0)) := by rw [hW3, heap_alloc_new]; rfl
  have hm3 := hid ((hkW3.block mb (by omega) (by simp)).trans HM2.out)
  have hr3 := hid ((hkW3.block rb (by omega) (by simp)).trans HR2.out)
  have HA3 := hid ha3
  have HK3 := hid (HK2.out.past hkW3 (by simp))
  have hoc : (cap = o) = False := eq_false (by omega)
  clear hW3 q0 q1 q2 hkW3 ha3
  have hsrc := row_cells (l := bytes4 x) (o := 0) (w := W3.drew) HA3.out (fun j hj => by rw [Nat.zero_add]; simp [ub, List.getElem?_eq_getElem hj])
  have HS := hid hsrc
  clear hsrc
  have hl4 : (ub (bytes4 x)).length = Nat.min 4 (n - o) := by simp only [ub, bytes4, List.length_map, List.length_cons, List.length_nil]; exact (Nat.min_eq_left (by omega)).symm
  have hl5 : o + (ub (bytes4 x)).length ≤ cur.size := by simp only [ub, bytes4, List.length_map, List.length_cons, List.length_nil]; omega
  have HL4 := hid hl4
  have HL5 := hid hl5
  clear hl4 hl5
  go_region_held_law (fun w' => w'.cell? ⟨w.heap.size, 0, none⟩ = some (.pointer (some ⟨rb, 0, none⟩)) ∧ w'.cell? ⟨w.heap.size + 1, 0, none⟩ = some (.int .i64 o) ∧ w'.cell? ⟨rb, 0, none⟩ = some (.slice (some ⟨mb, 0, none⟩) n cap))
    (first
      | exact keep3 hst (Kp.drew _ []) (by simp)
      | exact keep3 hst ((Kp.drew _ _).trans hk4.out) (by simp; omega))
    ((refine step_copy_at (by rfl) _ _ 40 40 (by rfl) 31 (by rfl) 5 Tryz.underlying40 Tryz.size5 (some ⟨mb, o, none⟩) (some ⟨w2.heap.size, 0, none⟩) (n - o) (cap - o) 4 4 (by rfl) (by rfl) mb o cur 5 hm3.out (ub (bytes4 x)) HL4.out (fun _ => ⟨rfl, _, rfl, HS.out⟩) HL5.out (ub_one _) ?_; intro w4 hg4 hk4 hs4))
  go_wp2
  go_ret
  have hk : Kp W3 w4 [mb] := (Kp.drew _ _).trans hk4.out
  refine ⟨rfl, ar_set ((hk.block rb (lt_of_block hr3.out) (by simp; omega)).trans hr3.out) hg4.out HC.out (bytes4_byt hx0 hx1) (by simp [bytes4]; omega) hncap hcap hmax, ?_⟩
  exact (HK3.out.mono (by simp)).trans (hk.mono (by simp))
end Go.Proofs.YtgefmnnkpffpcaaGreatDoor
