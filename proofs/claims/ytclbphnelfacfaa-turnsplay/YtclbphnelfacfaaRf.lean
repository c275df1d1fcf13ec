/- The reference in memory; take, goes. -/
import Derived.Test.YtclbphnelfacfaaOk
import Derived.Test.YtclbphnelfacfaaFifo
import Derived.Deep.RegionLaw
namespace Go.Proofs.Ytclbphnelfacfaa
open Go.RowKit Go.Shelf

def updA {α : Type} (f : Nat → α) (i : Nat) (v : α) : Nat → α := fun j => if j = i then v else f j
theorem updA_same {α : Type} (f : Nat → α) (i : Nat) (v : α) : updA f i v i = v := by simp [updA]
theorem updA_ne {α : Type} (f : Nat → α) {i j : Nat} (v : α) (h : j ≠ i) : updA f i v j = f j := by simp [updA, h]
def rG (q : Nat) (F : Nat → Value) (P : Nat → Nat) (B : Nat → Bool) (E : Nat → Int) : Nat → Value := fun i =>
  if i = 0 then .int .i64 (q : Nat) else if i < 33 then F (i - 1) else if i < 49 then .int .i64 (P (i - 33) : Nat) else if i < 65 then .bool (B (i - 49)) else .int .i64 (E (i - 65))
/-- The reference's turns at block qb: sequences, priorities, robins, what is left. -/
def Rx (w : World) (qb q : Nat) (L : Ls) (P : Nat → Nat) (B : Nat → Bool) (E : Nat → Int) : Prop :=
  ∃ F : Nat → Value, w.heap[qb]? = some (.cells (vcl (rG q F P B E) 81 0).toArray 53 (0, 0)) ∧ ∀ p, p < 32 → Ns w 0 (F p) (L p)
section
variable {w w' : World} {qb q : Nat} {L : Ls} {P : Nat → Nat} {B : Nat → Bool} {E : Nat → Int}
theorem Rx.kept {rows : List Nat} (h : Rx w qb q L P B E) (hk : Kp w w' rows) (hq : qb ∉ rows) (hr : ∀ r ∈ rows, ∃ c t, w.heap[r]? = some (.cells c t (0, 0)) ∧ t ≠ 3) : Rx w' qb q L P B E := by
  obtain ⟨F, h1, h2⟩ := h
  refine ⟨F, (hk.block qb (lt_of_block h1) hq).trans h1, fun p hp => (h2 p hp).kp hk fun g hg hm => ?_⟩
  obtain ⟨c, t, hc, ht⟩ := hr g hm
  exact ns_ne (h2 p hp) hc ht hg rfl
theorem Rx.keep (h : Rx w qb q L P B E) (hk : Kp w w' []) : Rx w' qb q L P B E := h.kept hk (by simp) (by simp)
theorem Rx.lt (h : Rx w qb q L P B E) : qb < w.heap.size := by obtain ⟨F, h1, -⟩ := h; exact lt_of_block h1
theorem Rx.free (h : Rx w qb q L P B E) (i : Nat) : w.frozen? ⟨qb, i, none⟩ = false := by obtain ⟨F, h1, -⟩ := h; simp [World.frozen?, h1]
theorem rG_seq (F : Nat → Value) (p : Nat) (hp : p < 32) : rG q F P B E (1 + p) = F p := by
  unfold rG
  rw [if_neg (by omega), if_pos (by omega), show 1 + p - 1 = p by omega]
theorem rG_prio (F : Nat → Value) (t : Nat) (ht : t < 16) : rG q F P B E (33 + t) = .int .i64 (P t : Nat) := by
  unfold rG
  rw [if_neg (by omega), if_neg (by omega), if_pos (by omega), show 33 + t - 33 = t by omega]
theorem rG_robin (F : Nat → Value) (t : Nat) (ht : t < 16) : rG q F P B E (49 + t) = .bool (B t) := by
  unfold rG
  rw [if_neg (by omega), if_neg (by omega), if_neg (by omega), if_pos (by omega), show 49 + t - 49 = t by omega]
theorem rG_left (F : Nat → Value) (t : Nat) : rG q F P B E (65 + t) = .int .i64 (E t) := by
  unfold rG
  rw [if_neg (by omega), if_neg (by omega), if_neg (by omega), if_neg (by omega), show 65 + t - 65 = t by omega]
theorem Rx.quantum (h : Rx w qb q L P B E) : w.cell? ⟨qb, 0, none⟩ = some (.int .i64 (q : Nat)) := by
  obtain ⟨F, h1, -⟩ := h
  exact vcl_cell h1 0 (by decide)
theorem Rx.prio (h : Rx w qb q L P B E) {t : Nat} (ht : t < 16) : w.cell? ⟨qb, 33 + t, none⟩ = some (.int .i64 (P t : Nat)) := by
  obtain ⟨F, h1, -⟩ := h
  rw [vcl_cell h1 _ (by omega), rG_prio F t ht]
theorem Rx.robin (h : Rx w qb q L P B E) {t : Nat} (ht : t < 16) : w.cell? ⟨qb, 49 + t, none⟩ = some (.bool (B t)) := by
  obtain ⟨F, h1, -⟩ := h
  rw [vcl_cell h1 _ (by omega), rG_robin F t ht]
theorem Rx.left (h : Rx w qb q L P B E) {t : Nat} (ht : t < 16) : w.cell? ⟨qb, 65 + t, none⟩ = some (.int .i64 (E t)) := by
  obtain ⟨F, h1, -⟩ := h
  rw [vcl_cell h1 _ (by omega), rG_left F t]
theorem Rx.seq (h : Rx w qb q L P B E) {p : Nat} (hp : p < 32) : ∃ V, w.cell? ⟨qb, 1 + p, none⟩ = some V ∧ Ns w 0 V (L p) := by
  obtain ⟨F, h1, h2⟩ := h
  exact ⟨F p, by rw [vcl_cell h1 _ (by omega), rG_seq F p hp], h2 p hp⟩
/-- A sequence is laid down anew. -/
theorem Rx.setSeq {w1 : World} {p : Nat} {V : Value} {l : List Nat} (h : Rx w qb q L P B E) (hk : Kp w w1 []) (hp : p < 32) (hV : Ns w1 0 V l) : Rx (w1.setCell ⟨qb, 1 + p, none⟩ V) qb q (updL L p l) P B E ∧ Kp w (w1.setCell ⟨qb, 1 + p, none⟩ V) [qb] := by
  obtain ⟨F, h1, h2⟩ := h.keep hk
  have hk2 := Kp.setCell w1 ⟨qb, 1 + p, none⟩ V
  refine ⟨⟨updV F p V, ?_, fun p' hp' => ?_⟩, hk.nil.trans hk2⟩
  · refine vcl_heap h1 (by omega) fun i hi => ?_
    by_cases e : i = 1 + p
    · rw [if_pos e, e, rG_seq _ p hp]
      simp [updV]
    · rw [if_neg e]
      unfold rG
      by_cases e0 : i = 0
      · simp [e0]
      rw [if_neg e0, if_neg e0]
      by_cases e1 : i < 33
      · rw [if_pos e1, if_pos e1, updV, if_neg (by omega)]
      · rw [if_neg e1, if_neg e1]
  · by_cases e : p' = p
    · subst e
      rw [updL_same, show updV F p' V p' = V by simp [updV]]
      exact hV.kp hk2 fun g hg => by simpa using ns_ne hV h1 (by decide) hg
    · rw [updL_ne _ _ e, show updV F p V p' = F p' by simp [updV, e]]
      exact (h2 p' hp').kp hk2 fun g hg => by simpa using ns_ne (h2 p' hp') h1 (by decide) hg
theorem Rx.setAny (h : Rx w qb q L P B E) {P' : Nat → Nat} {B' : Nat → Bool} {E' : Nat → Int} {j : Nat} {v : Value} (hj : j < 81) (hg : ∀ F i, i < 81 → rG q F P' B' E' i = if i = j then v else rG q F P B E i) : Rx (w.setCell ⟨qb, j, none⟩ v) qb q L P' B' E' := by
  obtain ⟨F, h1, h2⟩ := h
  exact ⟨F, vcl_heap h1 hj (hg F), fun p hp => (h2 p hp).kp (Kp.setCell w ⟨qb, j, none⟩ v) fun g hg => by simpa using ns_ne (h2 p hp) h1 (by decide) hg⟩
theorem Rx.setPrio (h : Rx w qb q L P B E) {t : Nat} (ht : t < 16) (n : Nat) : Rx (w.setCell ⟨qb, 33 + t, none⟩ (.int .i64 (n : Nat))) qb q L (updA P t n) B E := by
  refine h.setAny (by omega) fun F i hi => ?_
  by_cases e : i = 33 + t
  · rw [if_pos e, e, rG_prio F t ht, updA_same]
  · rw [if_neg e]
    unfold rG
    by_cases e1 : 33 ≤ i ∧ i < 49
    · rw [if_neg (by omega), if_neg (by omega), if_pos (by omega), if_neg (by omega), if_neg (by omega), if_pos (by omega), updA_ne _ _ (by omega)]
    · by_cases e2 : i < 33
      · by_cases e3 : i = 0
        · rw [if_pos e3, if_pos e3]
        · rw [if_neg e3, if_neg e3, if_pos e2, if_pos e2]
      · have e4 : ¬ i = 0 := by omega
        have e5 : ¬ i < 49 := by omega
        simp only [if_neg e4, if_neg e2, if_neg e5]
theorem Rx.setRobin (h : Rx w qb q L P B E) {t : Nat} (ht : t < 16) (b : Bool) : Rx (w.setCell ⟨qb, 49 + t, none⟩ (.bool b)) qb q L P (updA B t b) E := by
  refine h.setAny (by omega) fun F i hi => ?_
  by_cases e : i = 49 + t
  · rw [if_pos e, e, rG_robin F t ht, updA_same]
  · rw [if_neg e]
    unfold rG
    by_cases e1 : 49 ≤ i ∧ i < 65
    · rw [if_neg (by omega), if_neg (by omega), if_neg (by omega), if_pos (by omega), if_neg (by omega), if_neg (by omega), if_neg (by omega), if_pos (by omega), updA_ne _ _ (by omega)]
    · by_cases e2 : i < 49
      · by_cases e3 : i = 0
        · rw [if_pos e3, if_pos e3]
        · by_cases e4 : i < 33
          · rw [if_neg e3, if_neg e3, if_pos e4, if_pos e4]
          · rw [if_neg e3, if_neg e3, if_neg e4, if_neg e4, if_pos e2, if_pos e2]
      · rw [if_neg (by omega), if_neg (by omega), if_neg e2, if_neg (by omega), if_neg (by omega), if_neg (by omega), if_neg e2, if_neg (by omega)]
theorem Rx.setLeft (h : Rx w qb q L P B E) {t : Nat} (ht : t < 16) (n : Int) : Rx (w.setCell ⟨qb, 65 + t, none⟩ (.int .i64 n)) qb q L P B (updA E t n) := by
  refine h.setAny (by omega) fun F i hi => ?_
  by_cases e : i = 65 + t
  · rw [if_pos e, e, rG_left F t, updA_same]
  · rw [if_neg e]
    unfold rG
    by_cases e2 : i < 65
    · by_cases e3 : i = 0
      · rw [if_pos e3, if_pos e3]
      · by_cases e4 : i < 33
        · rw [if_neg e3, if_neg e3, if_pos e4, if_pos e4]
        · by_cases e5 : i < 49
          · rw [if_neg e3, if_neg e3, if_neg e4, if_neg e4, if_pos e5, if_pos e5]
          · rw [if_neg e3, if_neg e3, if_neg e4, if_neg e4, if_neg e5, if_neg e5, if_pos e2, if_pos e2]
    · rw [if_neg (by omega), if_neg (by omega), if_neg (by omega), if_neg e2, if_neg (by omega), if_neg (by omega), if_neg (by omega), if_neg e2, updA_ne _ _ (by omega)]
theorem Rx.congr (h : Rx w qb q L P B E) {P' : Nat → Nat} {B' : Nat → Bool} {E' : Nat → Int} (hP : ∀ t, t < 16 → P t = P' t) (hB : ∀ t, t < 16 → B t = B' t) (hE : ∀ t, t < 16 → E t = E' t) : Rx w qb q L P' B' E' := by
  obtain ⟨F, h1, h2⟩ := h
  refine ⟨F, ?_, h2⟩
  rw [h1, vcl_congr (F := rG q F P B E) (G := rG q F P' B' E') 81 0 fun i hi => ?_]
  rw [Nat.zero_add]
  unfold rG
  by_cases e3 : i = 0
  · rw [if_pos e3, if_pos e3]
  rw [if_neg e3, if_neg e3]
  by_cases e4 : i < 33
  · rw [if_pos e4, if_pos e4]
  rw [if_neg e4, if_neg e4]
  by_cases e5 : i < 49
  · rw [if_pos e5, if_pos e5, hP _ (by omega)]
  rw [if_neg e5, if_neg e5]
  by_cases e6 : i < 65
  · rw [if_pos e6, if_pos e6, hB _ (by omega)]
  · rw [if_neg e6, if_neg e6, hE _ (by omega)]

set_option maxRecDepth 100000 in
set_option maxHeartbeats 2000000 in
theorem rtake_ok (h : Rx w qb q L P B E) {T p : Nat} (ht : T < 16) (hp : P T = p) (hp2 : p < 32) (hlk : (L p).length ≤ 1000) : Calls Try.prog 63 #[.pointer (some ⟨qb, 0, none⟩), .int .i64 T] w fun e w' => (∃ v, e = .returned v) ∧ Rx w' qb q (updL L p ((L p).filter (fun x => decide (x ≠ T)))) P B E ∧ Kp w w' [qb] := by
  obtain ⟨V, cF, hN⟩ := h.seq hp2
  obtain ⟨ao, cap, rfl⟩ := hN.slice
  have cP := h.prio ht
  rw [hp] at cP
  have HQ := hid h
  have HN := hid hN
  have hP32' : (p : Int) < 32 := by omega
  have ht0 : (0 : Int) ≤ (T : Int) := by omega
  have ht1 : (T : Int) < 16 := by omega
  have hp0 : (0 : Int) ≤ (p : Int) := by omega
  have CK := hid (fun (w1 : World) (hk : Kp w w1 []) => show w1.cell? ⟨qb, 33 + T, none⟩ = some (.int .i64 (p : Nat)) ∧ w1.cell? ⟨qb, 1 + p, none⟩ = some (.slice ao (L p).length cap) ∧ w1.frozen? ⟨qb, 1 + p, none⟩ = false from ⟨hk.cell cP (by simp), hk.cell cF (by simp), (h.keep hk).free _⟩)
  clear h hN hp
  go_enter Try.func63, Try.ntmps63
  go_wp2_with fail
  go_quiet (fail)
  go_wp2_with fail
  have K0 := hid (Kp.drewN w nq [])
  generalize World.drewN w nq = w0 at K0 ⊢
  go_loopw [4, 6] (fun v vi wr => ∃ (i : Nat) (ao1 : Option Addr) (n1 cp1 : Nat), i ≤ (L p).length ∧ v = .slice ao1 n1 cp1 ∧ vi = .int .i64 i ∧ Hid (Ns wr w.heap.size (.slice ao1 n1 cp1) (((L p).take i).filter (fun x => decide (x ≠ T)))) ∧ Hid (Kp w wr [])) (fun _ vi _ => (L p).length - (intOf vi).toNat)
  case atStart => exact ⟨0, none, 0, 0, Nat.zero_le _, rfl, rfl, Ns.nil _ _, K0⟩
  case round =>
    obtain ⟨i, ao1, n1, cp1, hi, rfl, rfl, hN1, hK1⟩ := hrel
    obtain ⟨c1, c2, f1⟩ := CK.out _ hK1.out
    by_cases hil : i < (L p).length
    · have hilI : (i : Int) < ((L p).length : Int) := by omega
      have hx : (L p)[i]? = some (L p)[i] := List.getElem?_eq_getElem hil
      obtain ⟨x, hxe⟩ : ∃ x, (L p)[i] = x := ⟨_, rfl⟩
      rw [hxe] at hx
      obtain ⟨g, rfl, -, -, cx⟩ := (HN.out.keep hK1.out).at hx
      have HX := hid (filter_step (T := T) hx)
      have hle : (((L p).take i).filter (fun x => decide (x ≠ T))).length ≤ 1000 := by
        have h1 := List.length_filter_le (fun x => decide (x ≠ T)) ((L p).take i)
        have h2 := List.length_take_le i (L p)
        omega
      clear hx hxe
      obtain ⟨fl, hfl⟩ : ∃ fl, ((L p).take i).filter (fun x => decide (x ≠ T)) = fl := ⟨_, rfl⟩
      rw [hfl] at HX hle hN1
      clear hfl
      by_cases hxt : x = T
      · have hne : ((x : Int) != (T : Int)) = false := by simp [hxt]
        have HE := hid (show ((L p).take (i + 1)).filter (fun y => decide (y ≠ T)) = fl by rw [HX.out]; simp [hxt])
        clear hxt
        go_wp2
        go_roundw
        case rel => exact ⟨i + 1, ao1, n1, cp1, by omega, rfl, by simp, by rw [HE.out]; exact hN1.out, hK1⟩
        case measure => simp [intOf]; omega
      · have hne : ((x : Int) != (T : Int)) = true := by simp; omega
        have HE := hid (show ((L p).take (i + 1)).filter (fun y => decide (y ≠ T)) = fl ++ [x] by rw [HX.out]; simp [hxt])
        clear hxt HX
        have hsz : w.heap.size ≤ wr.heap.size := hK1.out.size
        go_wp2_with (refine wpList_push rfl (.tmp 30) (.tmp 35) rfl w.heap.size (.slice ao1 n1 cp1) fl x rfl hN1.out rfl (by omega) hsz ?_; intro v2 w2 hN2 hG2; obtain ⟨ao2, cp2, hv2⟩ := hN2.slice; rw [List.length_append, List.length_cons, List.length_nil, Nat.zero_add] at hv2; subst hv2; have K2 := hid (grown_kp hN1.out hG2 hK1.out (Nat.le_refl _)); have N2 := hid hN2; clear hN2 hG2)
        go_roundw
        case rel => exact ⟨i + 1, ao2, fl.length + 1, cp2, by omega, rfl, by simp, by rw [HE.out]; exact N2.out, K2⟩
        case measure => simp [intOf]; omega
    · have hilI : ¬ (i : Int) < ((L p).length : Int) := by omega
      have hV := hN1.out
      rw [List.take_of_length_le (by omega)] at hV
      have HS := hid (HQ.out.setSeq hK1.out hp2 (hV.low (Nat.zero_le _)))
      clear hV
      go_wp2_with fail
      go_region
      go_end0
      exact ⟨⟨_, rfl⟩, HS.out.1.keep (Kp.drew _ _), HS.out.2.trans (Kp.drew _ _)⟩
end
end Go.Proofs.Ytclbphnelfacfaa
