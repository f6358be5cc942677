import Derived.Test.YtnmhnaanpjlniaaGreatAi
import Derived.Test.YtnmhnaanpjlniaaGreatAf
/-
  Layer 3: a variable is bound. (Written by gen_aj.py.)
-/
namespace Go.Proofs.YtnmhnaanpjlniaaGreat
open Go.RowKit Go.Maps

/-- what is told of binding -/
noncomputable def bindE (σ : Sb) (v : Int) (t : Nd) : Int :=
  if v < 0 then 1 else if (σ v).isSome = true then 1 else if (occ v (num 0 (vis σ 4097 [t]))).2 ≠ 0 then (occ v (num 0 (vis σ 4097 [t]))).2 else if (occ v (num 0 (vis σ 4097 [t]))).1 = true then 1 else 0

/-- one term is like another one, elsewhere -/
def Nd.twin (x t : Nd) : Prop := x.k = t.k ∧ x.s = t.s ∧ x.n = t.n ∧ Ts.twin x.kids t.kids

/-- what a call of Bind leaves -/
structure Bound (S : Nat) (σ : Sb) (m : Nat) (w : World) (v : Int) (t : Nd) (e : Ending) (w' : World) : Prop where
  out : e = .returned (.int .i64 (bindE σ v t))
  grown : w.grownBy w' (some S)
  no : bindE σ v t ≠ 0 → Below w.heap.size w w'
  yes : bindE σ v t = 0 → ∃ x : Nd, x.twin t ∧ SubAt S (σ.put v x) (m + 1) w' ∧ Ts.AtB w.heap.size w' x.p x.kids

theorem AtB_below {B : Nat} {w w' : World} {p : Option Addr} {ts : Ts} (h : Ts.AtB B w p ts) (hB : Below w.heap.size w w') : Ts.AtB B w' p ts := h.stay (Nat.le_refl _) fun b o _ hb => (stays hB).1 b o hb
theorem AtB_mono {B B' : Nat} {w : World} {p : Option Addr} {ts : Ts} (h : Ts.AtB B w p ts) (hBB : B' ≤ B) : Ts.AtB B' w p ts := h.stay hBB fun _ _ _ _ => rfl

theorem grown_but {w w' : World} (h : Below w.heap.size w w') (S : Nat) : w.grownBy w' (some S) := ⟨h.os, h.tape, h.output, h.size, fun k hk _ => h.block k hk⟩

theorem grown_set (w : World) (b i : Nat) (v : Value) : w.grownBy (w.setCell ⟨b, i, none⟩ v) (some b) :=
  ⟨rfl, rfl, rfl, by simp, fun k _ hne => Below.heap_setCell _ _ _ _ (fun e => hne (by rw [e]))⟩
theorem grown_new (w : World) (o : Obj) (b : Nat) : w.grownBy (w.alloc o) (some b) := grown_but ((Below.refl _ _).alloc (Nat.le_refl _) _) b

theorem Bound.of_no {S : Nat} {σ : Sb} {m : Nat} {w : World} {v : Int} {t : Nd} {e : Int} {w' : World} (_hS : SubAt S σ m w) (hB : Below w.heap.size w w') (he : bindE σ v t = e) (h0 : e ≠ 0) : Bound S σ m w v t (.returned (.int .i64 e)) w' :=
  ⟨by rw [he], grown_but hB S, fun _ => hB, fun h => absurd (he.symm.trans h) h0⟩

/-- how far a substitution is from having room -/
def highFar (S : Nat) (w : World) : Nat := match w.cell? ⟨S, 1, none⟩ with
  | some (.int _ h) => 15 - h.toNat
  | _ => 0

theorem beyond_lt {v : Int} (hv : v ≤ 9223372036854775807) {h : Nat} (hb : isBeyond v h) (hh : h ≤ 15) : h < 15 := by
  by_cases e : h = 15
  · subst e
    exfalso; apply hb
    apply Nat.div_eq_of_lt
    have : v.toNat ≤ 9223372036854775807 := by omega
    exact Nat.lt_of_le_of_lt this (by decide)
  · omega

theorem kid_zero {v : Int} {h : Nat} (hb : ¬ isBeyond v h) : kidOf v (h + 1) = 0 := by
  unfold kidOf
  unfold isBeyond at hb
  rw [Nat.add_sub_cancel, Classical.not_not.1 hb]

theorem not_beyond_up {v : Int} {h : Nat} (hb : ¬ isBeyond v h) : ¬ isBeyond v (h + 1) := by
  unfold isBeyond at hb ⊢
  have h1 := Classical.not_not.1 hb
  apply Classical.not_not.2
  have h2 : v.toNat < 2 ^ (3 + 4 * h) := by
    rcases Nat.div_eq_zero_iff.1 h1 with h | h
    · have : 0 < 2 ^ (3 + 4 * ‹Nat›) := Nat.pow_pos (by omega)
      omega
    · exact h
  exact Nat.div_eq_of_lt (Nat.lt_of_lt_of_le h2 (Nat.pow_le_pow_right (by omega) (by omega)))

/-- one level more -/
theorem node_up {w w' : World} {m h N : Nat} {p : Option Addr} {σ : Sb} (_hN : NodeAt w m h p σ) (hdom : ∀ v, σ v ≠ none → ¬ isBeyond v h) (hst : NodeAt w' m h p σ)
    (hrow : w'.heap[N]? = some (.cells (kidCells (fun i => if i = 0 then p else none) (.map none)) 106 (0, 0))) : NodeAt w' m (h + 1) (some ⟨N, 0, none⟩) σ := by
  refine .inr ⟨N, _, rfl, hrow, fun i hi => ?_⟩
  by_cases e : i = 0
  · subst e
    have : only σ (h + 1) 0 = σ := by
      funext v
      simp only [only]
      cases hv : σ v with
      | none => split <;> rfl
      | some x => rw [if_pos (kid_zero (hdom v (by rw [hv]; simp)))]
    rw [this]
    exact hst
  · rw [if_neg e]
    refine NodeAt.none_of (fun v => ?_) h
    simp only [only]
    cases hv : σ v with
    | none => split <;> rfl
    | some x => rw [if_neg (by rw [kid_zero (hdom v (by rw [hv]; simp))]; omega)]

theorem wk_twin {σ : Sb} (hE : Ends σ) {x t : Nd} (h : x.twin t) : (wk σ x).k = (wk σ t).k ∧ (wk σ x).n = (wk σ t).n := by
  by_cases hk : (x.k == 1) = true
  · have hk' : (t.k == 1) = true := by rw [← h.1]; exact hk
    cases hb : σ x.n with
    | none => rw [wk_stop (.inr hb), wk_stop (.inr (h.2.2.1 ▸ hb))]; exact ⟨h.1, h.2.2.1⟩
    | some b =>
      have hb' : σ t.n = some b := by rw [← h.2.2.1]; exact hb
      rw [wk_go hE hk hb, wk_go hE hk' hb']; exact ⟨rfl, rfl⟩
  · rw [Bool.not_eq_true] at hk
    have hk' : (t.k == 1) = false := by rw [← h.1]; exact hk
    rw [wk_stop (.inl hk), wk_stop (.inl hk')]; exact ⟨h.1, h.2.2.1⟩

theorem occ_first {σ : Sb} {v : Int} {t : Nd} (h : (occ v (num 0 (vis σ 4097 [t]))).1 = false) : ¬ (((wk σ t).k == 1) = true ∧ (wk σ t).n = v) := by
  rintro ⟨h1, h2⟩
  simp only [vis, num, occ] at h
  rw [if_neg (by omega), if_pos (by simp [h1, h2])] at h
  cases h

theorem sub_put {S : Nat} {σ : Sb} {m : Nat} {w w' : World} (hS : SubAt S σ m w) (hg : w.grownBy w' (some S)) {v : Int} (hv : 0 ≤ v ∧ v ≤ 9223372036854775807) (hn : σ v = none) {x t : Nd} (hx : x.twin t) (ho : (occ v (num 0 (vis σ 4097 [t]))).1 = false)
    (hat : Ts.At w' x.p x.kids) (hok : Ts.ok (.cons x.k x.s x.n x.p x.c x.kids .nil)) (hsz : t.kids.size ≤ 5000) {N : Addr} {h : Nat} (hh : h ≤ 15) (hrow : w'.heap[S]? = some (.cells #[.pointer (some N), .int .u64 (h : Nat), .int .i64 ((m + 1 : Nat))] 88 (0, 0)))
    (hN : NodeAt w' (m + 1) h (some N) (σ.put v x)) (hdom : ∀ u, σ u ≠ none → ¬ isBeyond u h) (hvb : ¬ isBeyond v h) : SubAt S (σ.put v x) (m + 1) w' := by
  obtain ⟨p, h0, h1, _, _, h4⟩ := hS.cells
  refine ⟨⟨some N, h, hrow, hh, hN, fun u hu => ?_⟩, hS.ends.put hn (fun hw => ?_), fun u y hy => ?_⟩
  · by_cases e : u = v
    · subst e; exact ⟨hv.1, hv.2, hvb⟩
    · rw [Sb.put_other e] at hu
      exact ⟨(h4 u hu).1, (h4 u hu).2.1, hdom u hu⟩
  · obtain ⟨e1, e2⟩ := wk_twin hS.ends hx
    exact occ_first ho ⟨by rw [← e1]; exact hw.1, by rw [← e2]; exact hw.2⟩
  · by_cases e : u = v
    · subst e
      rw [Sb.put_same] at hy
      cases hy
      exact ⟨hat, hok, by rw [Ts.twin_size _ _ hx.2.2.2]; exact hsz⟩
    · rw [Sb.put_other e] at hy
      obtain ⟨g1, g2⟩ := hS.at_ u y hy
      exact ⟨g1.small hg h1 (by simp), g2⟩

set_option maxRecDepth 100000 in
set_option maxHeartbeats 8000000 in
theorem bind_any (S : Nat) (σ : Sb) (m : Nat) (w : World) (hS : SubAt S σ m w) (hm : m < 1000000) (v : Int) (hv : -9223372036854775808 ≤ v ∧ v ≤ 9223372036854775807) (t : Nd) (hok : t.ok) (hat : Ts.At w t.p t.kids) (hsz : t.kids.size ≤ 5000) :
    Calls Tryz.prog 36 #[.pointer (some ⟨S, 0, none⟩), .int .i64 v, .agg #[.int .u8 t.k, .string t.s, .int .i64 t.n, .slice t.p t.kids.len t.c]] w (Bound S σ m w v t) := by
  by_cases hv0 : v < 0
  · have hE := Lib.hid (by unfold bindE; rw [if_pos hv0] : bindE σ v t = 1)
    have HS := Lib.hid hS
    clear hS hok hat
    go_enter Tryz.func36, Tryz.ntmps36
    go_wp2
    go_ret
    exact Bound.of_no HS.out ((Below.refl _ _).alloc (Nat.le_refl _) _) hE.out (by omega)
  have hSl := hS.lt
  have B1 : ∀ o : Obj, Below w.heap.size w (w.alloc o) := fun o => (Below.refl _ _).alloc (Nat.le_refl _) _
  cases hb : σ v with
  | some b =>
    have hE := Lib.hid (by unfold bindE; rw [if_neg hv0, if_pos (by rw [hb]; rfl)] : bindE σ v t = 1)
    have HS := Lib.hid hS
    have HB := Lib.hid hb
    have BB := Lib.hid B1
    clear hS hok hat hb B1
    go_enter Tryz.func36, Tryz.ntmps36
    go_wp2_with fail
    refine (binding_any S σ m _ (HS.out.below (BB.out _)) v hv).mono ?_
    rintro e w1 ⟨rfl, hB1⟩
    have BW := Lib.hid ((BB.out _).trans (hB1.mono (BB.out _).size))
    rw [HB.out, valOf_some]
    clear hB1
    go_wp2
    go_ret
    exact Bound.of_no HS.out (BW.out.alloc BW.out.size _) hE.out (by omega)
  | none =>
    obtain ⟨ob, oe, hocc⟩ : ∃ ob oe, occ v (num 0 (vis σ 4097 [t])) = (ob, oe) := ⟨_, _, rfl⟩
    have HS := Lib.hid hS
    have HB := Lib.hid hb
    have BB := Lib.hid B1
    have OC := Lib.hid hocc
    have AT := Lib.hid hat
    have OK := Lib.hid hok
    clear hS hok hat hb B1 hocc
    by_cases hoe : (oe != 0) = true
    · have hE := Lib.hid (by unfold bindE; rw [if_neg hv0, if_neg (by rw [HB.out]; simp), OC.out, if_pos (by simpa using hoe)] : bindE σ v t = oe)
      go_enter Tryz.func36, Tryz.ntmps36
      go_wp2_with fail
      obtain ⟨W0, hW0⟩ : ∃ W0, W0 = w.alloc (.cells #[.int .u8 t.k, .string t.s, .int .i64 t.n, .slice t.p t.kids.len t.c] 25) := ⟨_, rfl⟩
      have hx0 : BoxIs w.heap.size t W0 := by rw [hW0]; exact BoxIs.new w t _
      rw [← hW0]
      have BW := Lib.hid (by rw [hW0]; exact BB.out _ : Below w.heap.size w W0)
      have XX := Lib.hid hx0
      clear hW0 hx0
      refine (binding_any S σ m _ (HS.out.below BW.out) v hv).mono ?_
      rintro e w1 ⟨rfl, hB1⟩
      replace BW := Lib.hid (BW.out.trans (hB1.mono BW.out.size))
      replace XX := Lib.hid (XX.out.below hB1)
      rw [HB.out, valOf_none]
      have c0 := XX.out.c0
      have c1 := XX.out.c1
      have c2 := XX.out.c2
      have c3 := XX.out.c3
      have hlt : w.heap.size < w1.heap.size := XX.out.lt
      clear hB1
      go_wp2_with fail
      have hB2 : ∀ o : Obj, Below w.heap.size w (w1.alloc o) := fun o => BW.out.alloc BW.out.size o
      refine (occurs_any S σ m _ (HS.out.below (hB2 _)) v t OK.out (AT.out.below (hB2 _)) hsz).mono ?_
      rintro e w2 ⟨rfl, hB3⟩
      replace BW := Lib.hid ((hB2 _).trans (hB3.mono (hB2 _).size))
      rw [OC.out]
      clear hB2 hB3 c0 c1 c2 c3
      go_wp2
      go_ret
      exact Bound.of_no HS.out BW.out hE.out (by simpa using hoe)
    · have hoe0 : oe = 0 := by simpa using hoe
      subst hoe0
      clear hoe
      by_cases hob : ob = true
      · subst hob
        have hE := Lib.hid (by unfold bindE; rw [if_neg hv0, if_neg (by rw [HB.out]; simp), OC.out, if_neg (by simp), if_pos rfl] : bindE σ v t = 1)
        go_enter Tryz.func36, Tryz.ntmps36
        go_wp2_with fail
        obtain ⟨W0, hW0⟩ : ∃ W0, W0 = w.alloc (.cells #[.int .u8 t.k, .string t.s, .int .i64 t.n, .slice t.p t.kids.len t.c] 25) := ⟨_, rfl⟩
        have hx0 : BoxIs w.heap.size t W0 := by rw [hW0]; exact BoxIs.new w t _
        rw [← hW0]
        have BW := Lib.hid (by rw [hW0]; exact BB.out _ : Below w.heap.size w W0)
        have XX := Lib.hid hx0
        clear hW0 hx0
        refine (binding_any S σ m _ (HS.out.below BW.out) v hv).mono ?_
        rintro e w1 ⟨rfl, hB1⟩
        replace BW := Lib.hid (BW.out.trans (hB1.mono BW.out.size))
        replace XX := Lib.hid (XX.out.below hB1)
        rw [HB.out, valOf_none]
        have c0 := XX.out.c0
        have c1 := XX.out.c1
        have c2 := XX.out.c2
        have c3 := XX.out.c3
        have hlt : w.heap.size < w1.heap.size := XX.out.lt
        clear hB1
        go_wp2_with fail
        have hB2 : ∀ o : Obj, Below w.heap.size w (w1.alloc o) := fun o => BW.out.alloc BW.out.size o
        refine (occurs_any S σ m _ (HS.out.below (hB2 _)) v t OK.out (AT.out.below (hB2 _)) hsz).mono ?_
        rintro e w2 ⟨rfl, hB3⟩
        replace BW := Lib.hid ((hB2 _).trans (hB3.mono (hB2 _).size))
        rw [OC.out]
        clear hB2 hB3 c0 c1 c2 c3
        go_wp2
        go_ret
        exact Bound.of_no HS.out BW.out hE.out (by omega)
      · rw [Bool.not_eq_true] at hob
        subst hob
        have hE := Lib.hid (by unfold bindE; rw [if_neg hv0, if_neg (by rw [HB.out]; simp), OC.out, if_neg (by simp), if_neg (by simp)] : bindE σ v t = 0)
        go_enter Tryz.func36, Tryz.ntmps36
        go_wp2_with fail
        obtain ⟨W0, hW0⟩ : ∃ W0, W0 = w.alloc (.cells #[.int .u8 t.k, .string t.s, .int .i64 t.n, .slice t.p t.kids.len t.c] 25) := ⟨_, rfl⟩
        have hx0 : BoxIs w.heap.size t W0 := by rw [hW0]; exact BoxIs.new w t _
        rw [← hW0]
        have BW := Lib.hid (by rw [hW0]; exact BB.out _ : Below w.heap.size w W0)
        have XX := Lib.hid hx0
        clear hW0 hx0
        refine (binding_any S σ m _ (HS.out.below BW.out) v hv).mono ?_
        rintro e w1 ⟨rfl, hB1⟩
        replace BW := Lib.hid (BW.out.trans (hB1.mono BW.out.size))
        replace XX := Lib.hid (XX.out.below hB1)
        rw [HB.out, valOf_none]
        have c0 := XX.out.c0
        have c1 := XX.out.c1
        have c2 := XX.out.c2
        have c3 := XX.out.c3
        have hlt : w.heap.size < w1.heap.size := XX.out.lt
        clear hB1
        go_wp2_with fail
        have hB2 : ∀ o : Obj, Below w.heap.size w (w1.alloc o) := fun o => BW.out.alloc BW.out.size o
        have hx2 : ∀ o : Obj, BoxIs w.heap.size t (w1.alloc o) := fun o => XX.out.below ((Below.refl _ _).alloc (Nat.le_refl _) _)
        refine (occurs_any S σ m _ (HS.out.below (hB2 _)) v t OK.out (AT.out.below (hB2 _)) hsz).mono ?_
        rintro e w2 ⟨rfl, hB3⟩
        replace BW := Lib.hid ((hB2 _).trans (hB3.mono (hB2 _).size))
        replace XX := Lib.hid ((hx2 _).below hB3)
        rw [OC.out]
        have SB2 := Lib.hid (HS.out.below BW.out)
        clear hB2 hB3 hx2 c0 c1 c2 c3 hlt
        obtain ⟨p0, h0, hrow0, hh0, hN0, hdom0⟩ := SB2.out.cells
        have L0 := Lib.hid (And.intro hrow0 (And.intro hN0 (fun u (hu : σ u ≠ none) => (hdom0 u hu).2.2)))
        clear hrow0 hN0 hdom0
        go_wp2_with fail
        go_loopw [] (fun wr => ∃ (p : Option Addr) (h : Nat), Hid (wr.heap[S]? = some (.cells #[.pointer p, .int .u64 (h : Nat), .int .i64 (m : Nat)] 88 (0, 0))) ∧ h ≤ 15 ∧ Hid (NodeAt wr m h p σ) ∧ Hid (∀ u, σ u ≠ none → ¬ isBeyond u h) ∧ Hid (w.grownBy wr (some S)) ∧ Hid (BoxIs w.heap.size t wr)) (fun wr => highFar S wr)
        case atStart => exact ⟨p0, h0, Lib.hid L0.out.1, hh0, Lib.hid L0.out.2.1, Lib.hid L0.out.2.2, Lib.hid (grown_but BW.out S), XX⟩
        case round =>
          obtain ⟨p, h, HR, hh, NN, DD, GG, XR⟩ := hrel
          obtain ⟨s0, s1, s2, sf⟩ := SubAt.cell0 HR.out
          have hSr : S < wr.heap.size := World.block_lt_of_cell? _ _ s0
          have FAR : Hid (highFar S wr = 15 - h) := Lib.hid (by unfold highFar; rw [s1]; simp)
          have hST : S ≠ w.heap.size := by omega
          by_cases hbv : isBeyond v h
          · have hlt := beyond_lt hv.2 hbv hh
            have ND : Hid (∀ u, σ u ≠ none → ¬ isBeyond u (h + 1)) := Lib.hid fun u hu => not_beyond_up (DD.out u hu)
            cases p with
            | none =>
              have hnone := NN.out.of_none
              have NO := Lib.hid hnone
              clear hnone
              go_wp2_with fail
              refine (beyond_yes v (by omega) h hh hbv _).mono ?_
              rintro e w' ⟨rfl, hw⟩
              rw [hw]
              clear hw
              go_wp2
              go_roundw
              case rel =>
                refine ⟨none, h + 1, Lib.hid ?_, by omega, Lib.hid (NodeAt.none_of NO.out _), ND, Lib.hid (GG.out.trans (grown_set _ _ _ _)), Lib.hid (XR.out.of_block (Below.heap_setCell _ _ _ _ (fun e => hST e.symm)))⟩
                have hr1 := heap_setCell_same wr S 1 _ _ (.int .u64 ((h : Int) + 1)) HR.out
                simpa using hr1
              case measure =>
                rw [FAR.out]
                have hr1 := heap_setCell_same wr S 1 _ _ (.int .u64 ((h : Int) + 1)) HR.out
                have q1 := (SubAt.cell0 (by simpa using hr1)).2.1
                unfold highFar
                rw [q1]
                simp; omega
            | some pp =>
              go_wp2_with fail
              refine (beyond_yes v (by omega) h hh hbv _).mono ?_
              rintro e w' ⟨rfl, hw⟩
              rw [hw]
              clear hw
              go_wp2
              have hu : ∀ k, k ≠ S → ((wr.setCell ⟨S, 0, none⟩ (.pointer (some ⟨wr.heap.size, 0, none⟩))).setCell ⟨S, 1, none⟩ (.int .u64 ((h : Int) + 1))).heap[k]? = wr.heap[k]? := fun k hk => (Below.heap_setCell _ _ _ _ hk).trans (Below.heap_setCell _ _ _ _ hk)
              have hus : ((wr.setCell ⟨S, 0, none⟩ (.pointer (some ⟨wr.heap.size, 0, none⟩))).setCell ⟨S, 1, none⟩ (.int .u64 ((h : Int) + 1))).heap.size = wr.heap.size := by simp
              have hG : wr.grownBy (((wr.setCell ⟨S, 0, none⟩ (.pointer (some ⟨wr.heap.size, 0, none⟩))).setCell ⟨S, 1, none⟩ (.int .u64 ((h : Int) + 1))).alloc (.cells #[.pointer (some pp), .pointer none, .pointer none, .pointer none, .pointer none, .pointer none, .pointer none, .pointer none, .pointer none, .pointer none, .pointer none, .pointer none, .pointer none, .pointer none, .pointer none, .pointer none, .map none] 106)) (some S) := ((grown_set wr S 0 _).trans (grown_set _ S 1 _)).trans (grown_new _ _ S)
              have hrS : (((wr.setCell ⟨S, 0, none⟩ (.pointer (some ⟨wr.heap.size, 0, none⟩))).setCell ⟨S, 1, none⟩ (.int .u64 ((h : Int) + 1))).alloc (.cells #[.pointer (some pp), .pointer none, .pointer none, .pointer none, .pointer none, .pointer none, .pointer none, .pointer none, .pointer none, .pointer none, .pointer none, .pointer none, .pointer none, .pointer none, .pointer none, .pointer none, .map none] 106)).heap[S]? = some (.cells #[.pointer (some ⟨wr.heap.size, 0, none⟩), .int .u64 ((h + 1 : Nat) : Int), .int .i64 (m : Nat)] 88 (0, 0)) := by
                rw [Below.heap_alloc _ _ _ (by rw [hus]; exact hSr)]
                have hr1 := heap_setCell_same _ S 1 _ _ (.int .u64 ((h : Int) + 1)) (heap_setCell_same wr S 0 _ _ (.pointer (some ⟨wr.heap.size, 0, none⟩)) HR.out)
                simpa using hr1
              have hrN : (((wr.setCell ⟨S, 0, none⟩ (.pointer (some ⟨wr.heap.size, 0, none⟩))).setCell ⟨S, 1, none⟩ (.int .u64 ((h : Int) + 1))).alloc (.cells #[.pointer (some pp), .pointer none, .pointer none, .pointer none, .pointer none, .pointer none, .pointer none, .pointer none, .pointer none, .pointer none, .pointer none, .pointer none, .pointer none, .pointer none, .pointer none, .pointer none, .map none] 106)).heap[wr.heap.size]? = some (.cells (kidCells (fun i => if i = 0 then some pp else none) (.map none)) 106 (0, 0)) := by
                have := heap_alloc_new ((wr.setCell ⟨S, 0, none⟩ (.pointer (some ⟨wr.heap.size, 0, none⟩))).setCell ⟨S, 1, none⟩ (.int .u64 ((h : Int) + 1))) (.cells #[.pointer (some pp), .pointer none, .pointer none, .pointer none, .pointer none, .pointer none, .pointer none, .pointer none, .pointer none, .pointer none, .pointer none, .pointer none, .pointer none, .pointer none, .pointer none, .pointer none, .map none] 106)
                rw [hus] at this
                exact this
              have RS := Lib.hid hrS
              have RN := Lib.hid hrN
              have RG := Lib.hid hG
              clear hrS hrN hG hu hus
              go_roundw
              case rel =>
                exact ⟨some ⟨wr.heap.size, 0, none⟩, h + 1, RS, by omega, Lib.hid (node_up NN.out DD.out (NN.out.grown RG.out HR.out (by simp)) RN.out), ND, Lib.hid (GG.out.trans RG.out), Lib.hid (XR.out.of_block (RG.out.block _ XR.out.lt (by simpa using hST.symm)))⟩
              case measure =>
                rw [FAR.out]
                have q1 := (SubAt.cell0 RS.out).2.1
                unfold highFar
                rw [q1]
                simp; omega
          · have hvb := Lib.hid hbv
            have TB := Lib.hid (fun i (hi : i < 4) => XR.out.lt)
            have b0 := XR.out.c0
            go_wp2_with fail
            refine (beyond_no v (by omega) h hh hbv _).mono ?_
            rintro e w' ⟨rfl, hw⟩
            rw [hw]
            clear hw b0 TB
            go_wp2_with fail
            have ATR : Hid (Ts.At wr t.p t.kids) := Lib.hid (by
              obtain ⟨_, _, hrw, _⟩ := HS.out.cells
              exact AT.out.small GG.out hrw (by simp))
            refine region_facts_last (fun W_ => Below wr.heap.size wr W_) [fun u _ => u = .pointer (some ⟨S, 0, none⟩), fun u _ => u = .pointer (some ⟨S, 0, none⟩), fun u _ => u = .pointer (some ⟨S, 0, none⟩), fun u _ => u = .pointer (some ⟨S, 0, none⟩), fun u _ => u = .pointer p, fun u _ => u = .pointer (some ⟨S, 0, none⟩), fun u _ => u = .pointer (some ⟨S, 0, none⟩), fun u _ => u = .pointer (some ⟨S, 1, none⟩), fun u _ => u = .int .u64 (h : Nat), fun u _ => u = .int .i64 v, fun u _ => u = .agg #[.int .u8 t.k, .string t.s, .int .i64 t.n, .slice t.p t.kids.len t.c], fun u W => ∃ us q d, u = tv t.k t.s t.n q us.len d ∧ Ts.AtB wr.heap.size W q us ∧ Ts.twin us t.kids ∧ us.ok ∧ (us.len ≤ d ∧ d ≤ 9223372036854775807) ∧ (q = none → d = 0), fun u W => ∃ N us q d, u = .pointer (some N) ∧ NodeAt W (m + 1) h (some N) (σ.put v ⟨t.k, t.s, t.n, q, d, us⟩) ∧ Ts.AtB wr.heap.size W q us ∧ Ts.twin us t.kids ∧ us.ok ∧ (us.len ≤ d ∧ d ≤ 9223372036854775807) ∧ (q = none → d = 0), fun u _ => u = .pointer (some ⟨S, 0, none⟩), fun u _ => u = .pointer (some ⟨S, 0, none⟩)]
              ⟨.eq _, .eq _, .eq _, .eq _, .eq _, .eq _, .eq _, .eq _, .eq _, .eq _, .eq _, (fun _ _ _ ⟨us, q, d, h1, h2, h3⟩ hB => ⟨us, q, d, h1, AtB_below h2 hB, h3⟩), (fun _ _ _ ⟨N, us, q, d, h1, h2, h3, h4⟩ hB => ⟨N, us, q, d, h1, h2.below hB, AtB_below h3 hB, h4⟩), .eq _, .eq _, trivial⟩ (by kernel_rfl) (by kernel_rfl) (by kernel_rfl) (by kernel_rfl) (Below.refl _ _).drew ?_ (by decide)
            refine ⟨?_, ?_, ?_, ?_, ?_, ?_, ?_, ?_, ?_, ?_, ?_, ?_, ?_, ?_, ?_, ?_⟩
            · intro g_ W_ hI hd K hK
              simp only [frameOf, Act.put, List.setIfInBounds_toArray, List.set_cons_zero, List.set_cons_succ]
              go_simp
              refine hK.out (.pointer (some ⟨S, 0, none⟩)) _ W_ ?_ hI (Below.refl _ _) rfl
              simp only [frameOf, Act.put, List.setIfInBounds_toArray, List.set_cons_zero, List.set_cons_succ, Nat.zero_add, Nat.reduceAdd]
            · intro g_ W_ hI hd K hK
              simp only [frameOf, Act.put, List.setIfInBounds_toArray, List.set_cons_zero, List.set_cons_succ]
              go_simp
              refine hK.out (.pointer (some ⟨S, 0, none⟩)) _ W_ ?_ hI (Below.refl _ _) rfl
              simp only [frameOf, Act.put, List.setIfInBounds_toArray, List.set_cons_zero, List.set_cons_succ, Nat.zero_add, Nat.reduceAdd]
            · intro g_ W_ hI hd K hK
              simp only [frameOf, Act.put, List.setIfInBounds_toArray, List.set_cons_zero, List.set_cons_succ]
              have h1 : g_ 1 = .pointer (some ⟨S, 0, none⟩) := hd 1 (by kernel_rfl)
              rw [h1]
              go_simp
              refine hK.out (.pointer (some ⟨S, 0, none⟩)) _ W_ ?_ hI (Below.refl _ _) rfl
              simp only [frameOf, Act.put, List.setIfInBounds_toArray, List.set_cons_zero, List.set_cons_succ, Nat.zero_add, Nat.reduceAdd, h1]
            · intro g_ W_ hI hd K hK
              simp only [frameOf, Act.put, List.setIfInBounds_toArray, List.set_cons_zero, List.set_cons_succ]
              have h2 : g_ 2 = .pointer (some ⟨S, 0, none⟩) := hd 2 (by kernel_rfl)
              rw [h2]
              go_simp
              refine hK.out (.pointer (some ⟨S, 0, none⟩)) _ W_ ?_ hI (Below.refl _ _) rfl
              simp only [frameOf, Act.put, List.setIfInBounds_toArray, List.set_cons_zero, List.set_cons_succ, Nat.zero_add, Nat.reduceAdd, h2]
            · intro g_ W_ hI hd K hK
              simp only [frameOf, Act.put, List.setIfInBounds_toArray, List.set_cons_zero, List.set_cons_succ]
              have h3 : g_ 3 = .pointer (some ⟨S, 0, none⟩) := hd 3 (by kernel_rfl)
              rw [h3]
              have c0 := (hI.cell (p := ⟨S, 0, none⟩) hSr).trans s0
              go_simp
              refine hK.out (.pointer p) _ W_ ?_ hI (Below.refl _ _) rfl
              simp only [frameOf, Act.put, List.setIfInBounds_toArray, List.set_cons_zero, List.set_cons_succ, Nat.zero_add, Nat.reduceAdd, h3]
            · intro g_ W_ hI hd K hK
              simp only [frameOf, Act.put, List.setIfInBounds_toArray, List.set_cons_zero, List.set_cons_succ]
              go_simp
              refine hK.out (.pointer (some ⟨S, 0, none⟩)) _ W_ ?_ hI (Below.refl _ _) rfl
              simp only [frameOf, Act.put, List.setIfInBounds_toArray, List.set_cons_zero, List.set_cons_succ, Nat.zero_add, Nat.reduceAdd]
            · intro g_ W_ hI hd K hK
              simp only [frameOf, Act.put, List.setIfInBounds_toArray, List.set_cons_zero, List.set_cons_succ]
              have h5 : g_ 5 = .pointer (some ⟨S, 0, none⟩) := hd 5 (by kernel_rfl)
              rw [h5]
              go_simp
              refine hK.out (.pointer (some ⟨S, 0, none⟩)) _ W_ ?_ hI (Below.refl _ _) rfl
              simp only [frameOf, Act.put, List.setIfInBounds_toArray, List.set_cons_zero, List.set_cons_succ, Nat.zero_add, Nat.reduceAdd, h5]
            · intro g_ W_ hI hd K hK
              simp only [frameOf, Act.put, List.setIfInBounds_toArray, List.set_cons_zero, List.set_cons_succ]
              have h6 : g_ 6 = .pointer (some ⟨S, 0, none⟩) := hd 6 (by kernel_rfl)
              rw [h6]
              go_simp
              refine hK.out (.pointer (some ⟨S, 1, none⟩)) _ W_ ?_ hI (Below.refl _ _) rfl
              simp only [frameOf, Act.put, List.setIfInBounds_toArray, List.set_cons_zero, List.set_cons_succ, Nat.zero_add, Nat.reduceAdd, h6]
            · intro g_ W_ hI hd K hK
              simp only [frameOf, Act.put, List.setIfInBounds_toArray, List.set_cons_zero, List.set_cons_succ]
              have h7 : g_ 7 = .pointer (some ⟨S, 1, none⟩) := hd 7 (by kernel_rfl)
              rw [h7]
              have c0 := (hI.cell (p := ⟨S, 1, none⟩) hSr).trans s1
              go_simp
              refine hK.out (.int .u64 (h : Nat)) _ W_ ?_ hI (Below.refl _ _) rfl
              simp only [frameOf, Act.put, List.setIfInBounds_toArray, List.set_cons_zero, List.set_cons_succ, Nat.zero_add, Nat.reduceAdd, h7]
            · intro g_ W_ hI hd K hK
              simp only [frameOf, Act.put, List.setIfInBounds_toArray, List.set_cons_zero, List.set_cons_succ]
              go_simp
              refine hK.out (.int .i64 v) _ W_ ?_ hI (Below.refl _ _) rfl
              simp only [frameOf, Act.put, List.setIfInBounds_toArray, List.set_cons_zero, List.set_cons_succ, Nat.zero_add, Nat.reduceAdd]
            · intro g_ W_ hI hd K hK
              simp only [frameOf, Act.put, List.setIfInBounds_toArray, List.set_cons_zero, List.set_cons_succ]
              have XW := XR.out.below hI
              have c0 := XW.c0
              have c1 := XW.c1
              have c2 := XW.c2
              have c3 := XW.c3
              go_simp
              refine hK.out (.agg #[.int .u8 t.k, .string t.s, .int .i64 t.n, .slice t.p t.kids.len t.c]) _ W_ ?_ hI (Below.refl _ _) rfl
              simp only [frameOf, Act.put, List.setIfInBounds_toArray, List.set_cons_zero, List.set_cons_succ, Nat.zero_add, Nat.reduceAdd]
            · intro g_ W_ hI hd K hK
              simp only [frameOf, Act.put, List.setIfInBounds_toArray, List.set_cons_zero, List.set_cons_succ]
              have h10 : g_ 10 = .agg #[.int .u8 t.k, .string t.s, .int .i64 t.n, .slice t.p t.kids.len t.c] := hd 10 (by kernel_rfl)
              rw [h10]
              go_simp
              refine (sclone_any _ t.kids (Nat.lt_succ_self _) (by omega) OK.out.2.2.2.2.2.1 t.k t.s t.n W_ t.p t.c ((ATR.out).below hI)).mono ?_
              rintro e w' ⟨us, q, d, rfl, hat, htw, hok, hcl, hqn, hB⟩
              refine hK.out (tv t.k t.s t.n q us.len d) _ _ ?_ (hI.trans (hB.mono hI.size)) hB ⟨us, q, d, rfl, AtB_mono hat hI.size, htw, hok, hcl, hqn⟩
              simp only [frameOf, Act.put, List.setIfInBounds_toArray, List.set_cons_zero, List.set_cons_succ, Nat.zero_add, Nat.reduceAdd, h10]
            · intro g_ W_ hI hd K hK
              simp only [frameOf, Act.put, List.setIfInBounds_toArray, List.set_cons_zero, List.set_cons_succ]
              have h4 : g_ 4 = .pointer p := hd 4 (by kernel_rfl)
              have h8 : g_ 8 = .int .u64 (h : Nat) := hd 8 (by kernel_rfl)
              have h9 : g_ 9 = .int .i64 v := hd 9 (by kernel_rfl)
              obtain ⟨us, q, d, h11, hat, htw, hok, hcl, hqn⟩ := hd 11 (by kernel_rfl)
              rw [h4, h8, h9, h11]
              unfold tv at h11 ⊢
              go_simp
              refine (with_any h hh p σ m v t.k t.s t.n q us d W_ W_ (NN.out.below hI) (Below.refl _ _) hm (by omega)).mono ?_
              rintro e w' ⟨N, rfl, hN, hB⟩
              refine hK.out (.pointer (some N)) _ _ ?_ (hI.trans (hB.mono hI.size)) hB ⟨N, us, q, d, rfl, hN w' (fun _ _ => rfl), AtB_below hat hB, htw, hok, hcl, hqn⟩
              simp only [frameOf, Act.put, List.setIfInBounds_toArray, List.set_cons_zero, List.set_cons_succ, Nat.zero_add, Nat.reduceAdd, h4, h8, h9, h11]
            · intro g_ W_ hI hd K hK
              simp only [frameOf, Act.put, List.setIfInBounds_toArray, List.set_cons_zero, List.set_cons_succ]
              have h0 : g_ 0 = .pointer (some ⟨S, 0, none⟩) := hd 0 (by kernel_rfl)
              rw [h0]
              go_simp
              refine hK.out (.pointer (some ⟨S, 0, none⟩)) _ W_ ?_ hI (Below.refl _ _) rfl
              simp only [frameOf, Act.put, List.setIfInBounds_toArray, List.set_cons_zero, List.set_cons_succ, Nat.zero_add, Nat.reduceAdd, h0]
            · intro g_ W_ hI hd K hK
              simp only [frameOf, Act.put, List.setIfInBounds_toArray, List.set_cons_zero, List.set_cons_succ]
              have h13 : g_ 13 = .pointer (some ⟨S, 0, none⟩) := hd 13 (by kernel_rfl)
              rw [h13]
              go_simp
              refine hK.out (.pointer (some ⟨S, 0, none⟩)) _ W_ ?_ hI (Below.refl _ _) rfl
              simp only [frameOf, Act.put, List.setIfInBounds_toArray, List.set_cons_zero, List.set_cons_succ, Nat.zero_add, Nat.reduceAdd, h13]
            · intro g_ W_ hI hd K hK
              simp only [frameOf, Act.put, List.setIfInBounds_toArray, List.set_cons_zero, List.set_cons_succ]
              obtain ⟨N, us, q, d, h12, hN, hat, htw, hok, hcl, hqn⟩ := hd 12 (by decide)
              have h14 : g_ 14 = .pointer (some ⟨S, 0, none⟩) := hd 14 (by decide)
              rw [h12, h14]
              have c0 := (hI.cell (p := ⟨S, 0, none⟩) hSr).trans s0
              have c2 := (hI.cell (p := ⟨S, 2, none⟩) hSr).trans s2
              have f0 := (hI.frozen (p := ⟨S, 0, none⟩) hSr).trans (sf 0)
              have f2 := (hI.frozen (p := ⟨S, 2, none⟩) hSr).trans (sf 2)
              have ND := Lib.hid hN
              have CA := Lib.hid (And.intro hat (And.intro htw (And.intro hok (And.intro hcl hqn))))
              have BI := Lib.hid hI
              clear hd hN hat htw hok hcl hqn hI
              go_simp
              refine hK.out undef _ _ ?_ ?_
              · simp only [frameOf, Act.put, List.setIfInBounds_toArray, List.set_cons_zero, List.set_cons_succ, Nat.zero_add, Nat.reduceAdd, h12, h14]
              · simp only [frameOf, Act.put, List.setIfInBounds_toArray, List.set_cons_zero, List.set_cons_succ]
                clear hK K
                go_wp2
                go_ret
                obtain ⟨hat, htw, hok, hcl, hqn⟩ := CA.out
                have hrW := (BI.out.block S hSr).trans HR.out
                have hrow1 := heap_setCell_same _ S 2 _ _ (.int .i64 ((m : Int) + 1)) (heap_setCell_same W_ S 0 _ _ (.pointer (some N)) hrW)
                have G2 : W_.grownBy ((W_.setCell ⟨S, 0, none⟩ (.pointer (some N))).setCell ⟨S, 2, none⟩ (.int .i64 ((m : Int) + 1))) (some S) := (grown_set W_ S 0 _).trans (grown_set _ S 2 _)
                have G1 := (GG.out.trans (grown_but BI.out S)).trans G2
                refine ⟨by rw [hE.out]; rfl, G1, fun h => absurd hE.out h, fun _ => ⟨⟨t.k, t.s, t.n, q, d, us⟩, ⟨rfl, rfl, rfl, htw⟩, sub_put (t := t) HS.out G1 (by omega) HB.out ⟨rfl, rfl, rfl, htw⟩ (by rw [OC.out]) (hat.at.small G2 hrW (by simp)) ⟨OK.out.1, OK.out.2.1, OK.out.2.2.1, hcl, hqn, hok, trivial⟩ hsz hh (by simpa using hrow1) (ND.out.grown G2 hrW (by simp)) DD.out hvb.out, hat.stay GG.out.size (fun b o hb _ => by
                  have hne : S ≠ b := by omega
                  rw [World.cell?_setCell_other _ _ _ _ (fun e => hne (by injection e)), World.cell?_setCell_other _ _ _ _ (fun e => hne (by injection e))])⟩⟩


end Go.Proofs.YtnmhnaanpjlniaaGreat
