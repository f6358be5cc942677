/-
  The law RenameTells' own canon.
-/
import Derived.Test.YtlhclblekpngnaaWe
namespace Go.Proofs.Ytlhclblekpngnaa
open Go.RowKit

/-- a cell of a box is written -/
theorem set_step (w' : World) (T i : Nat) (v y : Value) (h : w'.cell? ⟨T, i, none⟩ = some y) :
    ∃ W, W = w'.setCell ⟨T, i, none⟩ v ∧ W.heap.size = w'.heap.size ∧ (∀ b o, b ≠ T ∨ o ≠ i → W.cell? ⟨b, o, none⟩ = w'.cell? ⟨b, o, none⟩) ∧ W.cell? ⟨T, i, none⟩ = some v ∧ (∀ B (w : World), B ≤ T → Below B w w' → Below B w W) := by
  refine ⟨_, rfl, by simp, fun b o h => ?_, World.cell?_setCell_same _ _ _ h, fun B w hT hB => hB.setCell (p := ⟨T, i, none⟩) hT _⟩
  refine World.cell?_setCell_other _ _ _ _ fun e => ?_
  injection e with e1 e2
  rcases h with h | h
  · exact h e1.symm
  · exact h e2.symm

set_option maxRecDepth 100000 in
set_option maxHeartbeats 4000000 in
theorem lcanon_any (G : List Int) (hG : G.length ≤ 1000000) : ∀ (sz : Nat) (ts : Ts), ts.size < sz → ts.size ≤ 900000 → ts.ok → ∀ (w : World) (p : Option Addr) (c : Nat) (g : Option Addr) (d : Nat), Ts.At w p ts → IsInts w g G →
    Calls Try.prog 48 #[.slice p ts.len c, .slice g G.length d] w fun e w' => ∃ us q c', e = .returned (.slice q us.len c') ∧ Ts.AtP (fun b => w.heap.size ≤ b) w' q us ∧ Ts.twin us (renT (stepP G) ts ()).1 ∧ us.ok ∧ (us.len ≤ c' ∧ c' ≤ 9223372036854775807) ∧ (q = none → c' = 0) ∧ Below w.heap.size w w' := by
  obtain ⟨i0, hi, hz0, hz1, hz2⟩ := info_parts infoTerm
  intro sz
  induction sz with
  | zero => intro ts h; omega
  | succ sz ih =>
    intro ts hsz hbig hok w p c g d hat hgi
    have hls := Ts.len_size ts
    obtain ⟨b, o, hp, hlies⟩ := hat
    have GI := Lib.hid hgi
    clear hgi
    go_enter Try.func48, Try.ntmps48
    go_wp2_with fail
    go_loopw [5, 6] (fun s5 s6 wr => ∃ (j : Nat) (acc : Ts), j ≤ ts.len ∧ s6 = .int .i64 j ∧ Hid (OwnL w.heap.size 24 s5 acc wr) ∧ Hid (Ts.twin (acc.app (renT (stepP G) (ts.drop j) ()).1) (renT (stepP G) ts ()).1) ∧ Hid (Below w.heap.size w wr)) (fun _ i _ => ts.len - (intOf i).toNat)
    case atStart => exact ⟨0, .nil, Nat.zero_le _, rfl, Lib.hid (OwnL.start _ _ _), Lib.hid (by simp only [Ts.app, Ts.drop]; exact Ts.twin_refl _), Lib.hid (Below.refl _ _)⟩
    case round =>
      rename_i wr _
      obtain ⟨j, acc, hj, rfl, ROW, TW, B⟩ := hrel
      by_cases hlt : j < ts.len
      · obtain rfl := Ts.some_of hp hlt
        obtain ⟨k, s, n, pp, cc, kids, rest, HD, EL, hsz1, hoke⟩ := Ts.elem hlies B.out hok hlt
        have OKE := Lib.hid hoke
        have hlk := Ts.len_size kids
        have SR := Lib.hid (Ts.drop_succ j ts HD.out)
        clear hoke hp hlies
        have c0 := EL.c0
        have c1 := EL.c1
        have c2 := EL.c2
        have c3 := EL.c3
        obtain ⟨W2, hW2, hsz2, hB2, hc2, hf2⟩ := alloc_new wr #[.int .u8 k, .string s, .int .i64 n, .slice pp kids.len cc] 24
        have d0 := hc2 0 _ rfl
        have d1 := hc2 1 _ rfl
        have d2 := hc2 2 _ rfl
        have d3 := hc2 3 _ rfl
        have g2 := hf2 2
        have g3 := hf2 3
        clear hf2
        by_cases hk1 : (k == 1) = true
        · go_wp2_with fail
          rw [← hW2]
          have Z2 := Lib.hid hW2
          clear hW2
          refine (place_any G n W2 g d hG ((GI.out.below B.out).below hB2)).mono ?_
          rintro e w3 ⟨rfl, rfl⟩
          obtain ⟨W3, hW3, hs3, hc3, hv3, hb3⟩ := set_step w3 wr.heap.size 2 (.int .i64 (placeL G n)) _ d2
          have B3 : Below wr.heap.size wr W3 := hb3 _ _ (Nat.le_refl _) hB2
          have z3 : W3.frozen? ⟨wr.heap.size, 3, none⟩ = false := by rw [hW3, World.frozen?_setCell]; exact g3
          have f0 : W3.cell? ⟨wr.heap.size, 0, none⟩ = some (.int .u8 k) := (hc3 _ _ (.inr (by decide))).trans d0
          have f1 : W3.cell? ⟨wr.heap.size, 1, none⟩ = some (.string s) := (hc3 _ _ (.inr (by decide))).trans d1
          have f2 : W3.cell? ⟨wr.heap.size, 2, none⟩ = some (.int .i64 (placeL G n)) := hv3
          have f3 : W3.cell? ⟨wr.heap.size, 3, none⟩ = some (.slice pp kids.len cc) := (hc3 _ _ (.inr (by decide))).trans d3
          have e3 := ((stays B3).1 _ _ EL.lt).trans c3
          rw [hW3] at e3
          have W3E := Lib.hid hW3
          have F0 := Lib.hid f0
          have F1 := Lib.hid f1
          have F2 := Lib.hid f2
          have F3 := Lib.hid f3
          have G3 := Lib.hid z3
          clear hW3 hc2 hc3 hv3 hb3 c0 c1 c2 c3 f0 f1 f2 f3 z3 g3
          go_wp2_with fail
          rw [← W3E.out]
          clear e3 d0 d1 d2 d3 g2
          have f0 := F0.out
          have f1 := F1.out
          have f2 := F2.out
          have f3 := F3.out
          have z3 := G3.out
          have hT3 : wr.heap.size < W3.heap.size := by omega
          have hs4' := EL.lt
          refine (ih kids (by omega) (by omega) OKE.out.2.2.2.2.2.1 W3 pp cc g d (EL.tat.below B3) ((GI.out.below B.out).below B3)).mono ?_
          rintro e w4 ⟨us, q, c4, rfl, hat4, htw4, hok4, hcl4, hpn4, hB4⟩
          have k0 := ((stays hB4).1 _ _ hT3).trans f0
          have k1 := ((stays hB4).1 _ _ hT3).trans f1
          have k2 := ((stays hB4).1 _ _ hT3).trans f2
          have k3 := ((stays hB4).1 _ _ hT3).trans f3
          have y3 : w4.frozen? ⟨wr.heap.size, 3, none⟩ = false := (hB4.frozen (p := ⟨wr.heap.size, 3, none⟩) hT3).trans z3
          have hB4s := hB4.size
          have B4 : Below wr.heap.size wr w4 := B3.trans (hB4.mono B3.size)
          obtain ⟨W5, hW5, hs5, hc5, hv5, hb5⟩ := set_step w4 wr.heap.size 3 (.slice q us.len c4) _ k3
          have B5 : Below wr.heap.size wr W5 := hb5 _ _ (Nat.le_refl _) B4
          have m0 : W5.cell? ⟨wr.heap.size, 0, none⟩ = some (.int .u8 k) := (hc5 _ _ (.inr (by decide))).trans k0
          have m1 : W5.cell? ⟨wr.heap.size, 1, none⟩ = some (.string s) := (hc5 _ _ (.inr (by decide))).trans k1
          have m2 : W5.cell? ⟨wr.heap.size, 2, none⟩ = some (.int .i64 (placeL G n)) := (hc5 _ _ (.inr (by decide))).trans k2
          have m3 : W5.cell? ⟨wr.heap.size, 3, none⟩ = some (.slice q us.len c4) := hv5
          rw [hW5] at m0 m1 m2 m3
          have Z5 := Lib.hid hW5
          have HC5 := Lib.hid hc5
          have AT4 := Lib.hid hat4
          have TW4 := Lib.hid htw4
          have OK4 := Lib.hid hok4
          have CL4 := Lib.hid hcl4
          have PN4 := Lib.hid hpn4
          have BB4 := Lib.hid hB4
          have BB5 := Lib.hid B5
          clear z3 hW5 hc5 hv5 hb5 hat4 htw4 hok4 hcl4 hpn4 hB4 B5 B4 f0 f1 f2 f3
          obtain ⟨U, hU⟩ : ∃ U : Ts, U = .cons k s (placeL G n) q c4 us .nil := ⟨_, rfl⟩
          have UE := Lib.hid hU
          clear hU
          have hown0 : (W5.alloc (.cells (#[.int .u8 k, .string s, .int .i64 (placeL G n), .slice q us.len c4] : Array Value) 24)).ownsRow w.heap.size 24 4 _ acc.len (cellsL acc) := ((ROW.out.below BB5.out).1).alloc _
          rw [Z5.out] at hown0
          have hal : acc.len = j := by
            have h1 := Ts.twin_len _ _ TW.out
            rw [app_len, renT_len, renT_len, Ts.drop_len] at h1
            omega
          obtain ⟨W6, hW6, hs6, hB6, hc6, -⟩ := alloc_new W5 #[.int .u8 k, .string s, .int .i64 (placeL G n), .slice q us.len c4] 24
          have hnews : ∀ i v, (cellsL U)[i]? = some v → W6.cell? ((⟨w4.heap.size, 0, none⟩ : Addr).add i) = some v := by
            intro i v hiv
            rw [Go.WideShapes.add_plain, Nat.zero_add, ← hs5]
            refine hc6 i v ?_
            rw [UE.out] at hiv
            simpa [cellsL] using hiv
          have hBs := B.out.size
          have hU1 : U.len = 1 := by rw [UE.out]; rfl
          have hcu : (cellsL U).length = 1 * 4 := by rw [cellsL_length, hU1]
          have HN := Lib.hid hnews
          rw [hW6, Z5.out] at hnews
          clear hW6 hc6
          go_wp2_with (at_builtin; refine wpList_append_own_at _ rfl _ _ 22 rfl w.heap.size 24 i0 zeroTerm 4 56 Try.underlying22 hi hz0 hz1 hz2 rfl (by decide) _ _ _ rfl hown0 ⟨w4.heap.size, 0, none⟩ 1 1 (cellsL U) rfl hcu hnews (cellsL_one U) (by unfold maxLen; omega) (by omega) (by simp; omega) ?_; intro v5 W7 hown2 hgrow2 hnil hob; have X := Lib.hid (And.intro hown2 (And.intro hgrow2 hob)); clear hown2 hgrow2 hnil hob)
          have OW5 := ROW.out.below BB5.out
          have BW5 : Below w.heap.size w W5 := B.out.trans (BB5.out.mono B.out.size)
          have hn' : (if (k == 1) = true then placeL G n else n) = (placeL G n) := by rw [if_pos hk1]
          have hTW := TW.out
          rw [HD.out] at hTW
          have TW5 := Lib.hid (canon_round (q := q) (d := c4) hTW hn' TW4.out)
          have UOK : U.ok := by rw [UE.out]; exact ⟨OKE.out.1, OKE.out.2.1, placeL_range G n hG, CL4.out, PN4.out, OK4.out, trivial⟩
          have UK : KidsP (fun b => W3.heap.size ≤ b) W5 U := by
            rw [UE.out, Z5.out]
            exact ⟨AT4.out.stay fun b hb _ => Below.heap_setCell _ _ _ _ (by show b ≠ wr.heap.size; omega), trivial⟩
          rw [Z5.out] at OW5 BW5 UK
          have hs7 : (w4.setCell ⟨wr.heap.size, 3, none⟩ (.slice q us.len c4)).heap.size = w4.heap.size := by simp
          have OW7 := Lib.hid (OW5.push (m := W3.heap.size) X.out.1 X.out.2.1 X.out.2.2 hU1 UOK UK (by omega) (fun q' hq' => by have := (ROW.out.1.lt q' hq').2; omega))
          have BW7 := Lib.hid ((BW5.alloc (by omega) _).grown X.out.2.1 (by simp; omega) (fun q' hq' => (ROW.out.1.lt q' hq').1))
          rw [UE.out] at OW7
          clear OW5 BW5 UK UOK hnews hown0 hTW
          go_roundw
          case rel =>
            exact ⟨j + 1, _, by omega, by go_num, OW7, Lib.hid (by rw [SR.out]; exact TW5.out), BW7⟩
          case measure => simp [intOf]; omega
        · rw [Bool.not_eq_true] at hk1
          have e3 := fun (o : Obj) => cell_alloc_old o c3
          go_wp2_with fail
          rw [← hW2]
          have Z2 := Lib.hid hW2
          clear hW2 hc2 e3
          obtain ⟨W3, hW3⟩ : ∃ W3, W3 = W2 := ⟨_, rfl⟩
          rw [← hW3] at hB2 hsz2 d0 d1 d2 d3 g3 ⊢
          clear hW3
          have B3 := hB2
          have hs3 := hsz2
          have f0 := d0
          have f1 := d1
          have f2 := d2
          have f3 := d3
          have z3 := g3
          clear d0 d1 d2 d3 hB2 g2 g3
          have hT3 : wr.heap.size < W3.heap.size := by omega
          have hs4' := EL.lt
          refine (ih kids (by omega) (by omega) OKE.out.2.2.2.2.2.1 W3 pp cc g d (EL.tat.below B3) ((GI.out.below B.out).below B3)).mono ?_
          rintro e w4 ⟨us, q, c4, rfl, hat4, htw4, hok4, hcl4, hpn4, hB4⟩
          have k0 := ((stays hB4).1 _ _ hT3).trans f0
          have k1 := ((stays hB4).1 _ _ hT3).trans f1
          have k2 := ((stays hB4).1 _ _ hT3).trans f2
          have k3 := ((stays hB4).1 _ _ hT3).trans f3
          have y3 : w4.frozen? ⟨wr.heap.size, 3, none⟩ = false := (hB4.frozen (p := ⟨wr.heap.size, 3, none⟩) hT3).trans z3
          have hB4s := hB4.size
          have B4 : Below wr.heap.size wr w4 := B3.trans (hB4.mono B3.size)
          obtain ⟨W5, hW5, hs5, hc5, hv5, hb5⟩ := set_step w4 wr.heap.size 3 (.slice q us.len c4) _ k3
          have B5 : Below wr.heap.size wr W5 := hb5 _ _ (Nat.le_refl _) B4
          have m0 : W5.cell? ⟨wr.heap.size, 0, none⟩ = some (.int .u8 k) := (hc5 _ _ (.inr (by decide))).trans k0
          have m1 : W5.cell? ⟨wr.heap.size, 1, none⟩ = some (.string s) := (hc5 _ _ (.inr (by decide))).trans k1
          have m2 : W5.cell? ⟨wr.heap.size, 2, none⟩ = some (.int .i64 n) := (hc5 _ _ (.inr (by decide))).trans k2
          have m3 : W5.cell? ⟨wr.heap.size, 3, none⟩ = some (.slice q us.len c4) := hv5
          rw [hW5] at m0 m1 m2 m3
          have Z5 := Lib.hid hW5
          have HC5 := Lib.hid hc5
          have AT4 := Lib.hid hat4
          have TW4 := Lib.hid htw4
          have OK4 := Lib.hid hok4
          have CL4 := Lib.hid hcl4
          have PN4 := Lib.hid hpn4
          have BB4 := Lib.hid hB4
          have BB5 := Lib.hid B5
          clear z3 hW5 hc5 hv5 hb5 hat4 htw4 hok4 hcl4 hpn4 hB4 B5 B4 f0 f1 f2 f3 c0 c1 c2 c3
          obtain ⟨U, hU⟩ : ∃ U : Ts, U = .cons k s n q c4 us .nil := ⟨_, rfl⟩
          have UE := Lib.hid hU
          clear hU
          have hown0 : (W5.alloc (.cells (#[.int .u8 k, .string s, .int .i64 n, .slice q us.len c4] : Array Value) 24)).ownsRow w.heap.size 24 4 _ acc.len (cellsL acc) := ((ROW.out.below BB5.out).1).alloc _
          rw [Z5.out] at hown0
          have hal : acc.len = j := by
            have h1 := Ts.twin_len _ _ TW.out
            rw [app_len, renT_len, renT_len, Ts.drop_len] at h1
            omega
          obtain ⟨W6, hW6, hs6, hB6, hc6, -⟩ := alloc_new W5 #[.int .u8 k, .string s, .int .i64 n, .slice q us.len c4] 24
          have hnews : ∀ i v, (cellsL U)[i]? = some v → W6.cell? ((⟨w4.heap.size, 0, none⟩ : Addr).add i) = some v := by
            intro i v hiv
            rw [Go.WideShapes.add_plain, Nat.zero_add, ← hs5]
            refine hc6 i v ?_
            rw [UE.out] at hiv
            simpa [cellsL] using hiv
          have hBs := B.out.size
          have hU1 : U.len = 1 := by rw [UE.out]; rfl
          have hcu : (cellsL U).length = 1 * 4 := by rw [cellsL_length, hU1]
          have HN := Lib.hid hnews
          rw [hW6, Z5.out] at hnews
          clear hW6 hc6
          go_wp2_with (at_builtin; refine wpList_append_own_at _ rfl _ _ 22 rfl w.heap.size 24 i0 zeroTerm 4 56 Try.underlying22 hi hz0 hz1 hz2 rfl (by decide) _ _ _ rfl hown0 ⟨w4.heap.size, 0, none⟩ 1 1 (cellsL U) rfl hcu hnews (cellsL_one U) (by unfold maxLen; omega) (by omega) (by simp; omega) ?_; intro v5 W7 hown2 hgrow2 hnil hob; have X := Lib.hid (And.intro hown2 (And.intro hgrow2 hob)); clear hown2 hgrow2 hnil hob)
          have OW5 := ROW.out.below BB5.out
          have BW5 : Below w.heap.size w W5 := B.out.trans (BB5.out.mono B.out.size)
          have hn' : (if (k == 1) = true then placeL G n else n) = n := by rw [hk1]; rfl
          have hTW := TW.out
          rw [HD.out] at hTW
          have TW5 := Lib.hid (canon_round (q := q) (d := c4) hTW hn' TW4.out)
          have UOK : U.ok := by rw [UE.out]; exact ⟨OKE.out.1, OKE.out.2.1, OKE.out.2.2.1, CL4.out, PN4.out, OK4.out, trivial⟩
          have UK : KidsP (fun b => W3.heap.size ≤ b) W5 U := by
            rw [UE.out, Z5.out]
            exact ⟨AT4.out.stay fun b hb _ => Below.heap_setCell _ _ _ _ (by show b ≠ wr.heap.size; omega), trivial⟩
          rw [Z5.out] at OW5 BW5 UK
          have hs7 : (w4.setCell ⟨wr.heap.size, 3, none⟩ (.slice q us.len c4)).heap.size = w4.heap.size := by simp
          have OW7 := Lib.hid (OW5.push (m := W3.heap.size) X.out.1 X.out.2.1 X.out.2.2 hU1 UOK UK (by omega) (fun q' hq' => by have := (ROW.out.1.lt q' hq').2; omega))
          have BW7 := Lib.hid ((BW5.alloc (by omega) _).grown X.out.2.1 (by simp; omega) (fun q' hq' => (ROW.out.1.lt q' hq').1))
          rw [UE.out] at OW7
          clear OW5 BW5 UK UOK hnews hown0 hTW
          go_roundw
          case rel =>
            exact ⟨j + 1, _, by omega, by go_num, OW7, Lib.hid (by rw [SR.out]; exact TW5.out), BW7⟩
          case measure => simp [intOf]; omega
      · have hj' : j = ts.len := by omega
        have hd : ts.drop j = .nil := Ts.len_zero (by rw [Ts.drop_len]; omega)
        have hTW := TW.out
        rw [hd] at hTW
        simp only [renT] at hTW
        rw [app_nil] at hTW
        have TW' := Lib.hid hTW
        clear hTW hd
        obtain ⟨q, c', rfl, hq1, hq2, hq3⟩ := ROW.out.read
        have Q1 := Lib.hid hq1
        have Q2 := Lib.hid hq2
        have Q3 := Lib.hid hq3
        clear hq1 hq2 hq3
        go_wp2
        go_ret
        exact ⟨acc, q, c', rfl, Q1.out, TW'.out, ROW.out.2.1, Q2.out, Q3.out, B.out⟩

end Go.Proofs.Ytlhclblekpngnaa
