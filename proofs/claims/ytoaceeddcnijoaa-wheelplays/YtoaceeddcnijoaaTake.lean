/- take: what is wanted is taken out of the wheel. -/
import Derived.Test.YtoaceeddcnijoaaWh
import Derived.Deep.RegionHeldLaw
namespace Go.Proofs.Ytoaceeddcnijoaa
open Go.RowKit Go.Shelf Go.Lib Go.Sort

/-- The rings, those below k without what is wanted. -/
def Dk (p : Dl → Bool) (D : Nat → List Dl) (k : Nat) : Nat → List Dl := fun s => if s < k then rest p (D s) else D s
theorem Dk_same (p : Dl → Bool) (D : Nat → List Dl) (k : Nat) (h : (D k).any p = false) : Dk p D (k + 1) = Dk p D k := by
  funext s
  unfold Dk
  by_cases e : s = k
  · subst e
    rw [if_pos (by omega), if_neg (by omega), rest_none]
    intro x hx
    rw [List.any_eq_false] at h
    simpa using h x hx
  · by_cases q : s < k
    · rw [if_pos q, if_pos (by omega)]
    · rw [if_neg q, if_neg (by omega)]
theorem Dk_step (p : Dl → Bool) (D : Nat → List Dl) (k : Nat) : updD (Dk p D k) k (rest p (D k)) = Dk p D (k + 1) := by
  funext s
  show (if s = k then rest p (D k) else if s < k then rest p (D s) else D s) = if s < k + 1 then rest p (D s) else D s
  by_cases e : s = k
  · subst e
    simp
  · by_cases q : s < k
    · rw [if_neg e, if_pos q, if_pos (by omega)]
    · rw [if_neg e, if_neg q, if_neg (by omega)]
abbrev Dq (p : Dl → Bool) (D : Nat → List Dl) : Nat → List Dl := fun s => (D s).filter p
theorem cat_filter (p : Dl → Bool) (D : Nat → List Dl) : ∀ k, cat (Dq p D) k = (cat D k).filter p
  | 0 => rfl
  | k + 1 => by rw [cat, cat, cat_filter p D k, List.filter_append]
theorem ring_le (D : Nat → List Dl) {k : Nat} (hk : k < 64) : (cat D k).length + (D k).length ≤ (cat D 64).length := by
  have h1 := cat_le D (k := k + 1) (n := 64) (by omega)
  have h2 : (cat D (k + 1)).length = (cat D k).length + (D k).length := by simp [cat]
  omega

theorem Wh.ext {w : World} {wb : Nat} {F : Nat → Value} {D D' : Nat → List Dl} (h : Wh w wb F D) (he : ∀ s, s < 64 → D s = D' s) : Wh w wb F D' :=
  ⟨h.blk, fun s hs => by rw [← he s hs]; exact h.row s hs, h.inj⟩
/-- take, under way: the rings below k are done, t is what is taken. -/
structure Tk (w wr : World) (wb : Nat) (F : Nat → Value) (D : Nat → List Dl) (p : Dl → Bool) (k : Nat) (v : Value) (t : List Dl) : Prop where
  ex : ∃ F1, Wh wr wb F1 (Dk p D k) ∧ (∀ s, s < 64 → (F1 s).ownBlock = (F s).ownBlock) ∧ (∀ s, k ≤ s → F1 s = F s)
  row : Dr wr w.heap.size v t
  kp : Kp w wr (rows F wb)
theorem rows_same {F F1 : Nat → Value} {wb : Nat} (h : ∀ s, s < 64 → (F1 s).ownBlock = (F s).ownBlock) {k : Nat} : k ∈ rows F1 wb ↔ k ∈ rows F wb := by
  rw [mem_rows, mem_rows]
  constructor <;> rintro (q | ⟨s, hs, q⟩)
  · exact .inl q
  · exact .inr ⟨s, hs, by rw [← h s hs]; exact q⟩
  · exact .inl q
  · exact .inr ⟨s, hs, by rw [h s hs]; exact q⟩
section
variable {w wr w' : World} {wb : Nat} {F : Nat → Value} {D : Nat → List Dl} {p : Dl → Bool} {k : Nat} {v : Value} {t : List Dl}
theorem Tk.keep (h : Tk w wr wb F D p k v t) (hk : Kp wr w' []) : Tk w w' wb F D p k v t := by
  obtain ⟨F1, a, b, c⟩ := h.ex
  exact ⟨⟨F1, a.same hk, b, c⟩, h.row.keep hk, h.kp.trans hk.nil⟩
theorem Tk.ring (h : Tk w wr wb F D p k v t) (hk : k < 64) : Dr wr 0 (F k) (D k) := by
  obtain ⟨F1, a, b, c⟩ := h.ex
  have := a.row k hk
  rw [c k (Nat.le_refl _)] at this
  simpa [Dk] using this
/-- The row of what is taken changes. -/
theorem Tk.moved (h : Tk w wr wb F D p k v t) (hw : Wh w wb F D) {v' : Value} {t' : List Dl} (hd : Dr w' w.heap.size v' t') (kk : Kp wr w' v.ownBlock.toList) : Tk w w' wb F D p k v' t' := by
  obtain ⟨F1, a, b, c⟩ := h.ex
  have hi : ∀ g ∈ v.ownBlock.toList, w.heap.size ≤ g := by
    intro g hg
    exact (owns_block h.row (by simpa using hg)).1
  refine ⟨⟨F1, a.keep kk fun x hx hm => ?_, b, c⟩, hd, h.kp.past kk fun x hx hl => ?_⟩
  · have h1 := hi x hm
    have h2 := hw.rowslt ((rows_same b).1 hx)
    omega
  · have := hi x hx; omega
theorem Tk.grown (hw : Wh w wb F D) (h : Tk w wr wb F D p k v t) {v' : Value} {t' : List Dl} (hd : Dr w' w.heap.size v' t') (hg : wr.grownBy w' v.ownBlock) : Tk w w' wb F D p k v' t' :=
  h.moved hw hd (Kp.ofGrown hg (by intro g hg; simp [hg]))
theorem Tk.skip (h : Tk w wr wb F D p k v t) (hn : (D k).any p = false) : Tk w wr wb F D p (k + 1) v t := by
  obtain ⟨F1, a, b, c⟩ := h.ex
  exact ⟨⟨F1, by rw [Dk_same p D k hn]; exact a, b, fun s hs => c s (by omega)⟩, h.row, h.kp⟩
/-- A ring is laid down anew. -/
theorem Tk.put (hw : Wh w wb F D) (h : Tk w wr wb F D p k v t) (hk : k < 64) {gb m cap : Nat} {w1 : World} (hgb : (F k).ownBlock = some gb) (hkp : Kp wr w1 [gb]) (hd : Dr w1 0 (.slice (some ⟨gb, 0, none⟩) m cap) (rest p (D k))) : Tk w (w1.setCell ⟨wb, k, none⟩ (.slice (some ⟨gb, 0, none⟩) m cap)) wb F D p (k + 1) v t := by
  obtain ⟨F1, a, b, c⟩ := h.ex
  have h1 : (F1 k).ownBlock = some gb := (b k hk).trans hgb
  have hin : gb ∈ rows F wb := mem_rows.2 (.inr ⟨k, hk, hgb⟩)
  have hset := Kp.setCell w1 ⟨wb, k, none⟩ (.slice (some ⟨gb, 0, none⟩) m cap)
  have r := a.ring hk hkp (by intro x hx; simp at hx; rw [hx]; exact h1) hd (by intro g hg; simp [Value.ownBlock] at hg; subst hg; exact .inl h1)
  rw [Dk_step] at r
  refine ⟨⟨_, r, fun s hs => ?_, fun s hs => ?_⟩, (h.row.kp hkp fun g hg hm => ?_).kp hset fun g hg hm => ?_, (h.kp.trans (hkp.mono ?_)).trans (hset.mono ?_)⟩
  · unfold updV
    by_cases e : s = k
    · subst e
      rw [if_pos rfl, hgb]; rfl
    · rw [if_neg e]; exact b s hs
  · unfold updV
    rw [if_neg (by omega)]; exact c s (by omega)
  · have q := (owns_block h.row hg).1
    simp at hm
    have := hw.rowslt hin
    omega
  · have q := (owns_block h.row hg).1
    simp at hm
    have := hw.lt
    omega
  · intro x hx _; simp at hx; rw [hx]; exact hin
  · intro x hx _; simp at hx; rw [hx]; exact mem_rows.2 (.inl rfl)
end

set_option maxRecDepth 100000 in
set_option maxHeartbeats 4000000 in
theorem take_any (w : World) (wb : Nat) (F : Nat → Value) (D : Nat → List Dl) (g cb : Nat) (c : Int) (p : Dl → Bool) (h : Wh w wb F D) (hp : Prd g cb c p) (hc : w.cell? ⟨cb, 0, none⟩ = some (.int .i64 c)) (hcb : cb ∉ rows F wb) (hl : (cat D 64).length ≤ 100000) :
    Calls Try.prog 28 #[.pointer (some ⟨wb, 0, none⟩), pv g cb] w fun e w' => ∃ v F' Z, e = .returned v ∧ St ((cat D 64).filter p) Z ∧ Dr w' w.heap.size v Z ∧ Wh w' wb F' (fun s => rest p (D s)) ∧ (∀ s, s < 64 → (F' s).ownBlock = (F s).ownBlock) ∧ Kp w w' (rows F wb) := by
  have H := hid h
  have HP := hid hp
  have HC := hid hc
  have HCB := hid hcb
  have HL := hid hl
  have eg := hp.ent
  have hrg := h.range
  have hsz := size48 F
  obtain ⟨AR, hAR⟩ : ∃ AR, vcl F 64 0 = AR := ⟨_, rfl⟩
  have HX := hid (show ∀ k, k < 64 → ∀ ao m cap, F k = .slice ao m cap → ∀ W, (Instr.index 48 (.agg AR.toArray) (.int .i64 k)).run Try.prog W = .ok (.slice ao m cap) W from by rw [← hAR]; exact fun k hk ao m cap hF W => index_at F k hk ao m cap hF W)
  rw [hAR] at hrg hsz
  have HRG := hid (And.intro hrg hsz)
  clear h hp hc hcb hl hAR hrg hsz
  go_enter Try.func28, Try.ntmps28
  go_wp2_with fail
  go_step3
  go_wp2_with fail
  go_step3
  go_wp2_with (refine wpList_load_mid rfl _ _ rfl wb 0 rfl AR _ HRG.out.1 Try.underlying48 rfl HRG.out.2 ?_)
  go_loopw [5, 14] (fun vt vi wr => ∃ (k m cap : Nat) (ao : Option Addr), k ≤ 64 ∧ vi = .int .i64 k ∧ vt = .slice ao m cap ∧ Hid (Tk w wr wb F D p k (.slice ao m cap) ((cat D k).filter p))) (fun _ vi _ => 64 - (intOf vi).toNat)
  case atStart => exact ⟨0, 0, 0, none, by omega, rfl, rfl, ⟨⟨F, by have e : Dk p D 0 = D := (by funext s; simp [Dk]); rw [e]; exact H.out, fun _ _ => rfl, fun _ _ => rfl⟩, Dr.nil _ _, Kp.refl _ _⟩⟩
  case round =>
    obtain ⟨k, m, cap, ao, hk, rfl, rfl, hT⟩ := hrel
    by_cases hlt : k < 64
    · have hltI : (k : Int) < 64 := by omega
      have hring := hT.out.ring hlt
      obtain ⟨ak, ck, hF⟩ := hring.slice
      rw [hF] at hring
      obtain ⟨N, hN⟩ : ∃ N, (D k).length = N := ⟨_, rfl⟩
      have hNb : N ≤ 100000 := by have := ring_le D hlt; have := HL.out; omega
      have ch := has_any wr 0 _ (D k) g cb c p hring HP.out (hT.out.kp.cell HC.out HCB.out) (by omega)
      rw [hN] at hF hring ch
      have HRK := hid hring
      have HN := hid hN
      have hix := HX.out k hlt ak N ck hF
      have HF := hid hF
      have HH := hid ch
      clear hring hN hF ch
      cases hany : (D k).any p with
      | false =>
        have HAN := hid hany
        clear hany
        go_wp2_with fail
        refine HH.out.mono ?_
        rintro e w1 ⟨rfl, hK1⟩
        rw [HAN.out]
        have T1 := hid (show Tk w w1 wb F D p (k + 1) (.slice ao m cap) ((cat D (k + 1)).filter p) by
          have := (hT.out.keep hK1).skip HAN.out
          rw [cat, List.filter_append, show (D k).filter p = [] by
            rw [List.filter_eq_nil_iff]
            have := HAN.out
            rw [List.any_eq_false] at this
            exact this, List.append_nil]
          exact this)
        clear hK1
        go_wp2
        go_roundw
        case rel => exact ⟨k + 1, m, cap, ao, by omega, by simp, rfl, T1⟩
        case measure => simp [intOf]; omega
      | true =>
        have HAN := hid hany
        clear hany
        go_wp2_with fail
        refine HH.out.mono ?_
        rintro e w1 ⟨rfl, hK1⟩
        rw [HAN.out]
        have T1 := hid (hT.out.keep hK1)
        clear hK1 hT
        have hNI : (0 : Int) ≤ N := by omega
        go_wp2_with fail
        go_loopw [5, 24] (fun vt vi wx => ∃ (j m cap : Nat) (ao : Option Addr), j ≤ N ∧ vi = .int .i64 j ∧ vt = .slice ao m cap ∧ Hid (Tk w wx wb F D p k (.slice ao m cap) ((cat D k).filter p ++ ((D k).take j).filter p))) (fun _ vi _ => N - (intOf vi).toNat)
        case atStart => exact ⟨0, m, cap, ao, by omega, rfl, rfl, hid (by simpa using T1.out)⟩
        case round =>
          obtain ⟨j, m2, cap2, ao2, hj, rfl, rfl, hU⟩ := hrel
          clear T1 hix
          by_cases hjN : j < N
          · have hjI : (j : Int) < N := by omega
            have hjl : j < (D k).length := by have := HN.out; omega
            obtain ⟨x1, x2, hx⟩ : ∃ x1 x2, (D k)[j]! = (x1, x2) := ⟨(D k)[j]!.1, (D k)[j]!.2, rfl⟩
            have hrk := hU.out.ring hlt
            rw [HF.out] at hrk
            obtain ⟨gg, rfl, c1, c2, -, -⟩ := hrk.at hjl hx
            have hlg : gg < wr.heap.size := hrk.hk.2.2.2
            have A1 := hid (Kp.alloc wr (.cells #[.int .i64 x1, .int .i64 x2] 69) [])
            have hcb := hU.out.kp.cell HC.out HCB.out
            have HXX := hid hx
            clear hx hrk
            cases hpx : p (x1, x2) with
            | false =>
              have HPX := hid hpx
              clear hpx
              go_wp2_with fail
              refine (HP.out.call _ x1 x2 (A1.out.cell hcb (by simp))).mono ?_
              rintro e w2 ⟨rfl, k2⟩
              rw [HPX.out]
              have U2 := hid (show Tk w w2 wb F D p k (.slice ao2 m2 cap2) ((cat D k).filter p ++ ((D k).take (j + 1)).filter p) by
                rw [take_get hjl, HXX.out, List.filter_append, show [(x1, x2)].filter p = [] by simp [HPX.out], List.append_nil]
                exact hU.out.keep (A1.out.trans k2))
              clear k2
              go_wp2
              go_roundw
              case rel => exact ⟨j + 1, m2, cap2, ao2, by omega, by simp, rfl, U2⟩
              case measure => simp [intOf]; omega
            | true =>
              have HPX := hid hpx
              clear hpx
              go_wp2_with fail
              refine (HP.out.call _ x1 x2 (A1.out.cell hcb (by simp))).mono ?_
              rintro e w2 ⟨rfl, k2⟩
              rw [HPX.out]
              have b1 := k2.cell (show (wr.alloc (.cells #[.int .i64 x1, .int .i64 x2] 69)).cell? ⟨wr.heap.size, 0, none⟩ = some (.int .i64 x1) by simp) (by simp)
              have b2 := k2.cell (show (wr.alloc (.cells #[.int .i64 x1, .int .i64 x2] 69)).cell? ⟨wr.heap.size, 1, none⟩ = some (.int .i64 x2) by simp) (by simp)
              have U2 := hid ((hU.out.keep (A1.out.trans k2)).keep (Kp.alloc w2 (.cells #[.int .i64 x1, .int .i64 x2] 69) []))
              have HO := hid (Dr.one w2 x1 x2)
              have HB := hid (show ((cat D k).filter p ++ ((D k).take j).filter p).length ≤ 1000000 by
                have h1 := ring_le D hlt
                have h2 := HL.out
                have h3 := List.length_filter_le p (cat D k)
                have h4 := List.length_filter_le p ((D k).take j)
                rw [List.length_take] at h4
                rw [List.length_append]
                omega)
              clear k2 hcb c1 c2 hU
              go_wp2_with (refine wpList_joinD rfl (.tmp 31) (.tmp 33) rfl w.heap.size _ (.slice ao2 m2 cap2) _ _ [(x1, x2)] rfl U2.out.row rfl HO.out HB.out (by simp) U2.out.kp.size ?_; intro v3 w3 hd3 hg3; obtain ⟨a3, c3, hv3⟩ := hd3.slice; have U3 := hid (Tk.grown H.out U2.out hd3 hg3); obtain ⟨m3, hm3⟩ : ∃ m3, ((cat D k).filter p ++ ((D k).take j).filter p ++ [(x1, x2)]).length = m3 := ⟨_, rfl⟩; rw [hm3] at hv3; subst hv3; clear hd3 hg3 hm3)
              go_roundw
              case rel =>
                refine ⟨j + 1, m3, c3, a3, by omega, by simp, rfl, hid ?_⟩
                rw [take_get hjl, HXX.out, List.filter_append, show [(x1, x2)].filter p = [(x1, x2)] by simp [HPX.out], ← List.append_assoc]
                exact U3.out
              case measure => simp [intOf]; omega
          · have hjI : ¬ (j : Int) < N := by omega
            have hrk := hU.out.ring hlt
            rw [HF.out] at hrk
            have U2 := hid (show Tk w wr wb F D p k (.slice ao2 m2 cap2) ((cat D (k + 1)).filter p) by
              rw [cat, List.filter_append]
              have := hU.out
              rw [List.take_of_length_le (by have := HN.out; omega)] at this
              exact this)
            cases ak with
            | none =>
              obtain ⟨h0, -⟩ := hrk.none_of
              have := HAN.out
              rw [h0] at this
              cases this
            | some ad =>
              obtain ⟨gb, rfl⟩ := hrk.some_of
              have hin : gb ∈ rows F wb := mem_rows.2 (.inr ⟨k, hlt, by rw [HF.out]; rfl⟩)
              have hne : cb ≠ gb := fun e => HCB.out (by rw [e]; exact hin)
              have cd := hid (fun (W : World) (hK : Kp wr W []) => del_any W 0 gb N ck (D k) g cb c p (hrk.keep hK) HP.out (hK.cell (hU.out.kp.cell HC.out HCB.out) (by simp)) (by have := HN.out; omega) hne HAN.out)
              have hwb : wb ≠ gb := fun e => by
                have h1 := (H.out.ringlt hlt (g := gb) (by rw [HF.out]; rfl)).2
                exact h1 e.symm
              obtain ⟨F1, hF1, -, hF1k⟩ := U2.out.ex
              have hcell := hF1.cell hlt
              rw [hF1k k (Nat.le_refl _), HF.out] at hcell
              have hfz := hid (fun (W : World) (hK : Kp wr W [gb]) => (show W.cell? ⟨wb, k, none⟩ = some (.slice (some ⟨gb, 0, none⟩) N ck) ∧ W.frozen? ⟨wb, k, none⟩ = false from ⟨hK.cell hcell (by simpa using hwb), by
                have hb := (hK.block wb hF1.lt (by simpa using hwb)).trans hF1.blk
                simp [World.frozen?, hb]⟩))
              clear hrk hU hcell hF1 hF1k
              go_wp2_with fail
              go_region_held_law (fun _ => True) (trivial) (first | (go_at_call 36; refine (cd.out _ ?_).mono ?_; exact Kp.drew _ _; rintro e w9 ⟨⟨m9, rfl, hD9⟩, hK9⟩; have K9 := hid ((Kp.drew _ _).trans hK9); obtain ⟨q1, q2⟩ := hfz.out _ K9.out; have HD9 := hid hD9; clear hD9 hK9) | fail)
              have U3 := hid (Tk.put H.out U2.out hlt (gb := gb) (by rw [HF.out]; rfl) K9.out HD9.out)
              clear q1 q2 U2 cd hfz
              go_wp2
              go_roundw
              case rel => exact ⟨k + 1, m2, cap2, ao2, by omega, by simp, rfl, U3⟩
              case measure => simp [intOf]; omega
    · have hltI : ¬ (k : Int) < 64 := by omega
      have hk64 : k = 64 := by omega
      have HB := hid (show ((cat D k).filter p).length < 1000000 by
        have h2 := HL.out
        have h3 := List.length_filter_le p (cat D k)
        rw [hk64] at h3 ⊢
        omega)
      go_wp2_with fail
      refine (order_any _ w.heap.size _ _ hT.out.row HB.out).mono ?_
      rintro e w5 ⟨rfl, ⟨Z, hZ, hDZ⟩, hKZ⟩
      have HZ := hid (show St ((cat D 64).filter p) Z ∧ Tk w w5 wb F D p 64 (.slice ao m cap) Z by
        have h1 := hT.out.moved H.out hDZ hKZ
        rw [hk64] at hZ h1
        exact ⟨hZ, h1⟩)
      clear hZ hDZ hKZ hT
      go_wp2_with fail
      rw [Exit.noGoto_ret]
      go_ret
      obtain ⟨F1, h1, h2, -⟩ := HZ.out.2.ex
      exact ⟨_, F1, Z, rfl, HZ.out.1, HZ.out.2.row, h1.ext fun s hs => by simp [Dk, hs], h2, HZ.out.2.kp⟩
end Go.Proofs.Ytoaceeddcnijoaa
