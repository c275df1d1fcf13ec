/- A heap that is new; a block that is given from a multiple on. No Go is walked here. -/
import Derived.Test.YtgefmnnkpffpcaaGreatDoorHrepAlloc
import Derived.Test.YtgefmnnkpffpcaaGreatDoorMakeJ
namespace Go.Proofs.YtgefmnnkpffpcaaGreatDoor

theorem rep_new {n : Nat} (h0 : 128 ≤ n) (h1 : n ≤ 65536) (h8 : n % 8 = 0) : ∃ F, Rep n (putIn n (fun _ => 0) 112 (n - 112)) [(112, (n : Int) - 112, true)] F (fun _ => False) := by
  have base : Rep n (fun _ => 0) [(112, (n : Int) - 112, true)] (fun _ => []) (fun y => y = 112) := by
    refine ⟨h1, ⟨rfl, by omega, by omega, by show (112 : Int) + (n - 112) = n; omega⟩, ?_, ?_, fun _ _ => rfl, fun _ _ => trivial, ⟨0, rfl, by decide, fun c _ => by simp⟩, ?_, fun _ _ => List.nodup_nil, ?_, ⟨rfl, rfl, rfl, rfl⟩⟩
    · intro b hb q
      rw [List.mem_singleton.1 hb] at q
      exact absurd rfl q
    · intro u hu y hy e q
      rw [List.mem_singleton.1 hu] at q
      exact absurd rfl q
    · intro c hc x
      constructor
      · intro hx; cases hx
      · rintro ⟨q, z, hz, -⟩
        have := List.mem_singleton.1 hz
        simp only [Prod.mk.injEq] at this
        exact absurd this.1 q
    · rintro x rfl
      exact ⟨_, List.mem_singleton.2 rfl⟩
  obtain ⟨k, hk, hz⟩ := cls_bd (z := (n : Int) - 112) (by omega) (by omega)
  exact ⟨_, (rep_in base hk (List.mem_singleton.2 rfl) rfl hz).iff fun y => ⟨fun q => q.2 q.1, fun q => q.elim⟩⟩
theorem nf_front {A r : List Bl} {a z z' : Int} {f : Bool} (h : nf (A ++ (a, z, f) :: r)) : nf (A ++ [(a, z', f)]) := by
  induction A with
  | nil => trivial
  | cons u A ih =>
    cases A with
    | nil => exact ⟨h.1, trivial⟩
    | cons v A => exact ⟨h.1, ih h.2⟩
/-- The front of a block is laid into its list, the rest is given. -/
theorem rep_from {n : Nat} {g : Mem} {A r : List Bl} {F : Nat → List Int} {a z b s : Int} (h : Rep n g (A ++ (a, z, true) :: r) F (fun y => y = a)) (h1 : 16 ≤ s) (h2 : s % 8 = 0) (h3 : 16 ≤ b - a) (h4 : (b - a) % 8 = 0) (h5 : s ≤ a + z - b) :
    ∃ L' F' t, Rep n (give n (putIn n g a (b - a)) (piecesOf (A ++ (a, z, true) :: r)) b (a + z - b) s).1 L' F' (fun _ => False) ∧ piecesOf L' = (give n (putIn n g a (b - a)) (piecesOf (A ++ (a, z, true) :: r)) b (a + z - b) s).2 ∧
      piecesOf L' = piecesOf A ++ (b + 8, t) :: piecesOf r ∧ s ≤ t ∧ t ≤ a + z - b ∧ (nf (A ++ (a, z, true) :: r) → nf L') := by
  have ba := h.blk (x := (a, z, true)) (by simp)
  simp only at ba
  have q1 := rep_part h rfl h3 h4 (by omega)
  rw [show a + (b - a) = b by omega, show z - (b - a) = a + z - b by omega] at q1
  obtain ⟨k, hk, hz⟩ := cls_bd (z := b - a) (by omega) (by have := h.nn; omega)
  have q2 := (rep_in q1 hk (a := a) (z := b - a) (by simp) (.inl rfl) hz).iff (Y := fun y => y = b) fun y => ⟨fun q => q.1.elim (fun e => absurd e q.2) id, fun q => ⟨.inr q, by omega⟩⟩
  have hL : A ++ (a, b - a, true) :: (b, a + z - b, true) :: r = (A ++ [(a, b - a, true)]) ++ (b, a + z - b, true) :: r := by simp
  rw [hL] at q2
  have hA : piecesOf (A ++ [(a, b - a, true)]) = piecesOf A := by rw [pieces_app]; show piecesOf A ++ [] = _; simp
  have hP : piecesOf ((A ++ [(a, b - a, true)]) ++ (b, a + z - b, true) :: r) = piecesOf (A ++ (a, z, true) :: r) := by
    rw [pieces_app, hA, pieces_app]; rfl
  obtain ⟨L', F', w1, w2, w3, w4⟩ := rep_given q2 h1 h2
  rw [hP] at w1 w2 w3
  rw [hA] at w3
  refine ⟨L', F', _, w1, w2, w2.trans w3, ?_, ?_, fun q => w4 (nf_front q) (nf_tail (nf_right q))⟩
  · split <;> omega
  · split <;> omega
/-- Two pieces never overlap; each stands at a multiple of 8. -/
theorem pieces_apart {n : Nat} {L : List Bl} (h : contig 112 L n) {p q : Int × Int} (hp : p ∈ piecesOf L) (hq : q ∈ piecesOf L) : p = q ∨ p.1 + p.2 ≤ q.1 ∨ q.1 + q.2 ≤ p.1 := by
  obtain ⟨a, ha, e1⟩ := mem_pieces.1 hp
  obtain ⟨b, hb, e2⟩ := mem_pieces.1 hq
  rcases contig_apart h ha hb with e | e | e
  · left
    simp only [Prod.mk.injEq, and_true] at e
    obtain ⟨p1, p2⟩ := p
    obtain ⟨q1, q2⟩ := q
    simp only at e1 e2 e ⊢
    rw [e1, e2, e.1, e.2]
  · simp only at e; right; left; omega
  · simp only at e; right; right; omega
theorem pieces_at {n : Nat} {L : List Bl} (h : contig 112 L n) {p : Int × Int} (hp : p ∈ piecesOf L) : p.1 % 8 = 0 ∧ 120 ≤ p.1 ∧ 16 ≤ p.2 ∧ p.1 - 8 + p.2 ≤ n ∧ p.2 % 8 = 0 := by
  obtain ⟨a, ha, e1⟩ := mem_pieces.1 hp
  have := contig_mem h ha
  have h8 := this.2.2.2.2 (by decide)
  simp only at this h8
  omega
end Go.Proofs.YtgefmnnkpffpcaaGreatDoor

/- word and setWord: a word of the heap's arena, or nothing where there is none. -/
namespace Go.Proofs.YtgefmnnkpffpcaaGreatDoor
open Go.RowKit Go.Maps

/-- Behind a call: the heap's words and pieces, what it cost at most, what else may have changed. -/
def Went (w w' : World) (hb rb mb pb n : Nat) (g : Mem) (P : Pcs) (c k : Int) (rows : List Nat) : Prop :=
  ∃ c', c ≤ c' ∧ c' ≤ c + k ∧ Hp w' hb rb mb pb n g c' P ∧ Kp w w' rows

theorem upd_words {f : Nat → Int} {g : Mem} {n o : Nat} {x : Int} (hg : ∀ p, p % 4 = 0 → p + 4 ≤ n → wordAt f p = g p) (ho : o % 4 = 0) :
    ∀ p, p % 4 = 0 → p + 4 ≤ n → wordAt (over f o (bytes4 x)) p = upd g o x p := by
  intro p hp hn
  rw [over_word ho hp]
  unfold upd
  by_cases h : p = o
  · rw [if_pos h, if_pos h]
  · rw [if_neg h, if_neg h, hg p hp hn]

set_option maxRecDepth 100000 in
theorem word_any (w : World) (hb rb mb pb n : Nat) (g : Mem) (c : Int) (P : Pcs) (o : Int) (h : Hp w hb rb mb pb n g c P) (hc : c < 4611686018427387904) (h4 : o ≤ 9223372036854775807) :
    Calls Tryz.prog 73 #[.pointer (some ⟨hb, 0, none⟩), .int .i64 o] w fun e w' => e = .returned (.int .i64 (rd n g o)) ∧ Went w w' hb rb mb pb n g P c 1 [rb] := by
  have hc0 := h.c0cell
  have hcc := h.c0
  have hn := h.nb
  have H := hid h
  obtain ⟨f, ha, hg⟩ := h.aw
  have HA := hid ha
  have HG := hid hg
  clear h ha hg
  by_cases hw : hasW n o = true
  · have hr := hid (show rd n g o = wordAt f o.toNat by
      unfold rd; rw [if_pos hw]; have := of_decide_eq_true hw; exact (HG.out _ (by omega) (by omega)).symm)
    have hd := of_decide_eq_true hw
    obtain ⟨o', rfl⟩ := Int.eq_ofNat_of_zero_le hd.1
    obtain ⟨-, hd1, hd2⟩ := hd
    have hrange := wordAt_range (o := o') HA.out.byte (by omega)
    clear hw
    go_enter Tryz.func73, Tryz.ntmps73
    go_wp2_with fail
    refine (get_ok w rb mb n o' f c HA.out hn hcc (by omega) (by omega) (by omega)).mono ?_
    rintro e w1 ⟨rfl, hA1, hK1⟩
    have HA1 := hid hA1
    have HK1 := hid hK1
    clear hA1 hK1 hc0
    go_wp2
    go_ret
    refine ⟨by rw [hr.out]; rfl, c + 1, by omega, by omega, H.out.turn (HK1.out.mono (by simp)) ⟨f, HA1.out, HG.out⟩ (by omega), HK1.out⟩
  · have hw' : hasW n o = false := by simpa using hw
    have hr := hid (show rd n g o = 0 by unfold rd; rw [hw']; rfl)
    clear hw
    have HW := hid hw'
    clear hw'
    go_enter Tryz.func73, Tryz.ntmps73
    go_wp2_with fail
    refine (get_no w rb mb n f c o HA.out hn h4 HW.out).mono ?_
    rintro e w1 ⟨rfl, hK1⟩
    have HK1 := hid hK1
    clear hK1 hc0
    go_wp2
    go_ret
    exact ⟨by rw [hr.out]; rfl, c, by omega, by omega, H.out.same HK1.out, HK1.out.nil⟩

set_option maxRecDepth 100000 in
theorem setWord_any (w : World) (hb rb mb pb n : Nat) (g : Mem) (c : Int) (P : Pcs) (o x : Int) (h : Hp w hb rb mb pb n g c P) (hc : c < 4611686018427387904) (h4 : o ≤ 9223372036854775807) (hx0 : 0 ≤ x) (hx1 : x < 4294967296) :
    Calls Tryz.prog 103 #[.pointer (some ⟨hb, 0, none⟩), .int .i64 o, .int .i64 x] w fun e w' => e = .returned (.tuple #[]) ∧ Went w w' hb rb mb pb n (wr n g o x) P c 1 [rb, mb] := by
  have hc0 := h.c0cell
  have hcc := h.c0
  have hn := h.nb
  have H := hid h
  obtain ⟨f, ha, hg⟩ := h.aw
  have HA := hid ha
  have HG := hid hg
  clear h ha hg
  by_cases hw : hasW n o = true
  · have hr := hid (show wr n g o x = upd g o.toNat x by unfold wr; rw [if_pos hw])
    have hd := of_decide_eq_true hw
    obtain ⟨o', rfl⟩ := Int.eq_ofNat_of_zero_le hd.1
    obtain ⟨-, hd1, hd2⟩ := hd
    clear hw
    go_enter Tryz.func103, Tryz.ntmps103
    go_wp2_with fail
    refine (set_ok w rb mb n o' f c x HA.out hn hcc (by omega) hx0 hx1 (by omega) (by omega)).mono ?_
    rintro e w1 ⟨rfl, hA1, hK1⟩
    have HA1 := hid hA1
    have HK1 := hid hK1
    clear hA1 hK1 hc0
    go_wp2
    refine bodyPost_end (results_none rfl _ _ _) rfl ?_
    refine ⟨rfl, c + 1, by omega, by omega, H.out.turn HK1.out ⟨_, HA1.out, ?_⟩ (by omega), HK1.out⟩
    rw [hr.out]
    exact upd_words HG.out (by omega)
  · have hw' : hasW n o = false := by simpa using hw
    have hr := hid (show wr n g o x = g by unfold wr; rw [hw']; rfl)
    clear hw
    have HW := hid hw'
    clear hw'
    go_enter Tryz.func103, Tryz.ntmps103
    go_wp2_with fail
    refine (set_no w rb mb n f c o x HA.out hn h4 HW.out).mono ?_
    rintro e w1 ⟨rfl, hK1⟩
    have HK1 := hid hK1
    clear hK1 hc0
    go_wp2
    refine bodyPost_end (results_none rfl _ _ _) rfl ?_
    rw [hr.out]
    exact ⟨rfl, c, by omega, by omega, H.out.same HK1.out, HK1.out.nil⟩
end Go.Proofs.YtgefmnnkpffpcaaGreatDoor
