import Derived.Test.YtflomdnjabgnaaaBo
import Derived.Test.YtflomdnjabgnaaaBj
import Derived.Test.YtflomdnjabgnaaaAn
/-
  The law SubstMore, walked. (Written by gen_bl.py.)
-/
namespace Go.Proofs.Ytflomdnjabgnaaa
open Go.RowKit

theorem bsAt_nil (w : World) : BsAt w none [] := ⟨0, 0, .inl rfl, trivial⟩
theorem bGreat_nil {t : Nd} (h : bGreat [] t = false) : t.kids.size ≤ 5000 := (bGreat_size h).2.1

set_option maxRecDepth 100000 in
set_option maxHeartbeats 16000000 in
theorem substMore_true (l : List (Int × Nd)) (t tb : Nd) (v : Int) (hl63 : l.length ≤ 9223372036854775807) (hbok : (bsTs l).ok) (hvr : ∀ e ∈ l, -9223372036854775808 ≤ e.1 ∧ e.1 ≤ 9223372036854775807) (w : World) (lp : Option Addr) (lc : Nat) (hat : BsAt w lp l) (hok : t.ok) (htat : Ts.At w t.p t.kids) (hok2 : tb.ok) (htat2 : Ts.At w tb.p tb.kids) (hv : -9223372036854775808 ≤ v ∧ v ≤ 9223372036854775807) :
    Calls Try.prog 6 #[.slice lp l.length lc, .agg #[.int .u8 t.k, .string t.s, .int .i64 t.n, .slice t.p t.kids.len t.c], .agg #[.int .u8 tb.k, .string tb.s, .int .i64 tb.n, .slice tb.p tb.kids.len tb.c], .int .i64 v] w fun e w' => e = .returned (.bool true) ∧ Below w.heap.size w w' := by
  have BOK := Lib.hid hbok
  have VR := Lib.hid hvr
  have AT := Lib.hid hat
  have OK := Lib.hid hok
  have TAT := Lib.hid htat
  have OK2 := Lib.hid hok2
  have TAT2 := Lib.hid htat2
  have HV := Lib.hid hv
  obtain ⟨g, hg⟩ : ∃ g, g = bGreat l t := ⟨_, rfl⟩
  have GG := Lib.hid hg
  obtain ⟨g2, hg2⟩ : ∃ g, g = bGreat [] tb := ⟨_, rfl⟩
  have GG2 := Lib.hid hg2
  clear hbok hvr hat hok htat hg hok2 htat2 hg2
  go_enter Try.func6, Try.ntmps6
  go_upto_region 1 with fail
  obtain ⟨W0, hW0⟩ : ∃ W0, W0 = (w.alloc (.cells #[.int .u8 t.k, .string t.s, .int .i64 t.n, .slice t.p t.kids.len t.c] 24)).alloc (.cells #[.int .u8 tb.k, .string tb.s, .int .i64 tb.n, .slice tb.p tb.kids.len tb.c] 24) := ⟨_, rfl⟩
  rw [← hW0]
  have hB0 : Below w.heap.size w W0 := by rw [hW0]; exact below2 _ _ _
  have hXt : BoxIs w.heap.size t W0 := by rw [hW0]; exact (BoxIs.new w t _).below ((Below.refl _ _).alloc (Nat.le_refl _) _)
  have hXo : BoxIs (w.heap.size + 1) tb W0 := by
    have := BoxIs.new (w.alloc (.cells #[.int .u8 t.k, .string t.s, .int .i64 t.n, .slice t.p t.kids.len t.c] 24)) tb 24
    rw [World.size_alloc] at this
    rw [hW0]; exact this
  have BW := Lib.hid hB0
  have XT := Lib.hid hXt
  have XO := Lib.hid hXo
  have Z0 := Lib.hid hW0
  have c0 := hXt.c0
  have c1 := hXt.c1
  have c2 := hXt.c2
  have c3 := hXt.c3
  clear hW0 hB0 hXt hXo
  go_wp2_with fail
  refine (bgreat_any l t hl63 BOK.out _ lp lc (AT.out.below BW.out) OK.out (TAT.out.below BW.out)).mono ?_
  rintro e w1 ⟨rfl, hB⟩
  rw [← GG.out]
  replace XT := Lib.hid (XT.out.below hB)
  replace XO := Lib.hid (XO.out.below hB)
  replace BW := Lib.hid (BW.out.trans (hB.mono BW.out.size))
  clear hB c0 c1 c2 c3
  cases g with
  | true =>
    go_wp2_with fail
    refine (wakes3_any _).mono ?_
    rintro e we ⟨rfl, hB⟩
    replace BW := Lib.hid (BW.out.trans (hB.mono BW.out.size))
    clear hB
    go_wp2
    go_ret
    exact ⟨rfl, BW.out⟩

  | false =>
  have d0 := XO.out.c0
  have d1 := XO.out.c1
  have d2 := XO.out.c2
  have d3 := XO.out.c3
  go_wp2_with fail
  refine (bgreat_any [] tb (by simp) trivial _ none 0 (bsAt_nil _) OK2.out (TAT2.out.below BW.out)).mono ?_
  rintro e w2 ⟨rfl, hB⟩
  rw [← GG2.out]
  replace XT := Lib.hid (XT.out.below hB)
  replace XO := Lib.hid (XO.out.below hB)
  replace BW := Lib.hid (BW.out.trans (hB.mono BW.out.size))
  clear hB d0 d1 d2 d3
  cases g2 with
  | true =>
    go_wp2_with fail
    refine (wakes3_any _).mono ?_
    rintro e we ⟨rfl, hB⟩
    replace BW := Lib.hid (BW.out.trans (hB.mono BW.out.size))
    clear hB
    go_wp2
    go_ret
    exact ⟨rfl, BW.out⟩

  | false =>
  obtain ⟨hl40, hts, hbs⟩ := bGreat_size GG.out.symm
  have hts2 := bGreat_nil GG2.out.symm
  go_wp2_with fail
  refine (make_any l hl40 BOK.out hbs VR.out w2 lp lc (AT.out.below BW.out)).mono ?_
  rintro e w3 ⟨had, σ, q, c, rfl, hba, hhl, hS, hST, hsm, hB⟩
  obtain ⟨S, hSe⟩ : ∃ S, S = w2.heap.size := ⟨_, rfl⟩
  rw [← hSe] at hS
  have SE := Lib.hid hSe
  have SS := Lib.hid hS
  have hXOl := XO.out.lt
  replace XT := Lib.hid (XT.out.below hB)
  replace XO := Lib.hid (XO.out.below hB)
  replace BW := Lib.hid (BW.out.trans (hB.mono BW.out.size))
  have hSw : w.heap.size + 1 < S := by rw [SE.out]; exact hXOl
  have hn40 : had.length < 1000000 := by omega
  clear hba hS hST hsm hB hXOl
  rw [← hSe]
  clear hSe
  obtain ⟨N, hN⟩ : ∃ N, N = had.length := ⟨_, rfl⟩
  rw [← hN] at SS hn40 ⊢
  clear hN hhl
  have c0 := XT.out.c0
  have c1 := XT.out.c1
  have c2 := XT.out.c2
  have c3 := XT.out.c3
  go_wp2_with fail
  refine (apply_any S σ N w3 SS.out t OK.out (TAT.out.below BW.out) hts).mono ?_
  rintro e w4 ⟨hA, hB⟩
  replace XT := Lib.hid (XT.out.below hB)
  replace XO := Lib.hid (XO.out.below hB)
  replace SS := Lib.hid (SS.out.below hB)
  replace BW := Lib.hid (BW.out.trans (hB.mono BW.out.size))
  clear hB c0 c1 c2 c3
  rcases hA.cases with ⟨-, rfl⟩ | ⟨hvis, X, rfl, hap, hxat⟩
  · clear hA
    go_wp2_with fail
    refine (V_any _ _).mono ?_
    rintro e w5 ⟨rfl, hB⟩
    unfold tv
    have hB5 : Below w4.heap.size w4 w5 := ((Below.refl _ _).alloc (Nat.le_refl _) _).trans (hB.mono (by simp))
    replace XT := Lib.hid (XT.out.below hB5)
    replace XO := Lib.hid (XO.out.below hB5)
    replace SS := Lib.hid (SS.out.below hB5)
    replace BW := Lib.hid (BW.out.trans (hB5.mono BW.out.size))
    clear hB hB5
    go_wp2_with fail
    refine (walk_any S σ N w5 SS.out ⟨1, ⟨#[]⟩, v, none, 0, .nil⟩ (nd_ok (by omega) (by simp [ByteArray.size]) HV.out (by simp [Ts.len]) (fun _ => rfl) trivial) ⟨0, 0, .inl rfl, trivial⟩ (by simp [Ts.size])).mono ?_
    rintro e w6 ⟨x6, rfl, hC, hB⟩
    replace XT := Lib.hid (XT.out.below hB)
    replace XO := Lib.hid (XO.out.below hB)
    replace SS := Lib.hid (SS.out.below hB)
    replace BW := Lib.hid (BW.out.trans (hB.mono BW.out.size))
    obtain ⟨us6, q6, d6, rfl, -⟩ := hC
    clear hB
    unfold tv
    obtain ⟨W7, hW7⟩ : ∃ W, W = w6.alloc (.cells #[.int .u8 (wk σ ⟨1, ⟨#[]⟩, v, none, 0, .nil⟩).k, .string (wk σ ⟨1, ⟨#[]⟩, v, none, 0, .nil⟩).s, .int .i64 (wk σ ⟨1, ⟨#[]⟩, v, none, 0, .nil⟩).n, .slice q6 us6.len d6] 24) := ⟨_, rfl⟩
    have hB7 : Below w6.heap.size w6 W7 := by rw [hW7]; exact (Below.refl _ _).alloc (Nat.le_refl _) _
    have Z7 := Lib.hid hW7
    replace XT := Lib.hid (XT.out.below hB7)
    replace XO := Lib.hid (XO.out.below hB7)
    replace SS := Lib.hid (SS.out.below hB7)
    replace BW := Lib.hid (BW.out.trans (hB7.mono BW.out.size))
    clear hB7 hW7
    go_upto_region 8 with fail
    rw [← Z7.out]
    have d0 := XO.out.c0
    have d1 := XO.out.c1
    have d2 := XO.out.c2
    have d3 := XO.out.c3
    go_wp2_with fail
    refine (bind_any S σ N W7 SS.out hn40 v HV.out tb OK2.out (TAT2.out.below BW.out) hts2).mono ?_
    intro e w8 hBd
    obtain rfl := hBd.out
    replace BW := Lib.hid (BW.out.grown hBd.grown BW.out.size (fun q hq => by cases hq; omega))
    clear hBd d0 d1 d2 d3
    go_wp2_with fail
    refine (wakes3_any _).mono ?_
    rintro e we ⟨rfl, hB⟩
    replace BW := Lib.hid (BW.out.trans (hB.mono BW.out.size))
    clear hB
    go_wp2
    go_ret
    exact ⟨rfl, BW.out⟩

  · have HAP := Lib.hid hap
    have XA := Lib.hid hxat
    clear hA hap hxat
    obtain ⟨W5, hW5⟩ : ∃ W, W = w4.alloc (.cells #[.int .u8 X.k, .string X.s, .int .i64 X.n, .slice X.p X.kids.len X.c] 24) := ⟨_, rfl⟩
    have hB5 : Below w4.heap.size w4 W5 := by rw [hW5]; exact (Below.refl _ _).alloc (Nat.le_refl _) _
    obtain ⟨BX, hBX⟩ : ∃ b, b = w4.heap.size := ⟨_, rfl⟩
    have XX := Lib.hid (by rw [hBX, hW5]; exact BoxIs.new w4 X 24 : BoxIs BX X W5)
    have Z5 := Lib.hid hW5
    have hSB : S < BX := by rw [hBX]; exact SS.out.lt
    have ZX := Lib.hid hBX
    replace XA := Lib.hid (XA.out.at.below hB5)
    replace XT := Lib.hid (XT.out.below hB5)
    replace XO := Lib.hid (XO.out.below hB5)
    replace SS := Lib.hid (SS.out.below hB5)
    replace BW := Lib.hid (BW.out.trans (hB5.mono BW.out.size))
    clear hB5 hW5
    go_upto_region 7 with fail
    rw [← Z5.out, ← hBX]
    clear hBX
    go_wp2_with fail
    refine (V_any _ _).mono ?_
    rintro e w6 ⟨rfl, hB⟩
    unfold tv
    replace XX := Lib.hid (XX.out.below hB)
    replace XA := Lib.hid (XA.out.below hB)
    replace XT := Lib.hid (XT.out.below hB)
    replace XO := Lib.hid (XO.out.below hB)
    replace SS := Lib.hid (SS.out.below hB)
    replace BW := Lib.hid (BW.out.trans (hB.mono BW.out.size))
    clear hB
    go_wp2_with fail
    refine (walk_any S σ N w6 SS.out ⟨1, ⟨#[]⟩, v, none, 0, .nil⟩ (nd_ok (by omega) (by simp [ByteArray.size]) HV.out (by simp [Ts.len]) (fun _ => rfl) trivial) ⟨0, 0, .inl rfl, trivial⟩ (by simp [Ts.size])).mono ?_
    rintro e w7 ⟨x7, rfl, hC, hB⟩
    replace XX := Lib.hid (XX.out.below hB)
    replace XA := Lib.hid (XA.out.below hB)
    replace XT := Lib.hid (XT.out.below hB)
    replace XO := Lib.hid (XO.out.below hB)
    replace SS := Lib.hid (SS.out.below hB)
    replace BW := Lib.hid (BW.out.trans (hB.mono BW.out.size))
    obtain ⟨us7, q7, d7, rfl, -⟩ := hC
    clear hB
    unfold tv
    obtain ⟨Q, hQ⟩ : ∃ Q : Nd, Q = ⟨(wk σ ⟨1, ⟨#[]⟩, v, none, 0, .nil⟩).k, (wk σ ⟨1, ⟨#[]⟩, v, none, 0, .nil⟩).s, (wk σ ⟨1, ⟨#[]⟩, v, none, 0, .nil⟩).n, q7, d7, us7⟩ := ⟨_, rfl⟩
    have HQ := Lib.hid hQ
    obtain ⟨W8, hW8⟩ : ∃ W, W = w7.alloc (.cells #[.int .u8 Q.k, .string Q.s, .int .i64 Q.n, .slice Q.p Q.kids.len Q.c] 24) := ⟨_, rfl⟩
    have hB8 : Below w7.heap.size w7 W8 := by rw [hW8]; exact (Below.refl _ _).alloc (Nat.le_refl _) _
    obtain ⟨BQ, hBQ⟩ : ∃ b, b = w7.heap.size := ⟨_, rfl⟩
    have XQ := Lib.hid (by rw [hBQ, hW8]; exact BoxIs.new w7 Q 24 : BoxIs BQ Q W8)
    have hSQ : S < BQ := by rw [hBQ]; exact SS.out.lt
    have Z8 : Hid (W8 = w7.alloc (.cells #[.int .u8 (wk σ ⟨1, ⟨#[]⟩, v, none, 0, .nil⟩).k, .string (wk σ ⟨1, ⟨#[]⟩, v, none, 0, .nil⟩).s, .int .i64 (wk σ ⟨1, ⟨#[]⟩, v, none, 0, .nil⟩).n, .slice q7 us7.len d7] 24)) := Lib.hid (by rw [hW8, hQ])
    replace XX := Lib.hid (XX.out.below hB8)
    replace XA := Lib.hid (XA.out.below hB8)
    replace XT := Lib.hid (XT.out.below hB8)
    replace XO := Lib.hid (XO.out.below hB8)
    replace SS := Lib.hid (SS.out.below hB8)
    replace BW := Lib.hid (BW.out.trans (hB8.mono BW.out.size))
    clear hB8 hW8 hQ
    go_upto_region 8 with fail
    rw [← Z8.out, ← hBQ]
    clear hBQ
    have d0 := XO.out.c0
    have d1 := XO.out.c1
    have d2 := XO.out.c2
    have d3 := XO.out.c3
    go_wp2_with fail
    refine (bind_any S σ N W8 SS.out hn40 v HV.out tb OK2.out (TAT2.out.below BW.out) hts2).mono ?_
    intro e w9 hBd
    obtain rfl := hBd.out
    obtain ⟨E, hE⟩ : ∃ E, E = bindE σ v tb := ⟨_, rfl⟩
    rw [← hE]
    clear d0 d1 d2 d3
    by_cases hE0 : E = 0
    case neg =>
      have e1 : (E != 0) = true := by simp [hE0]
      replace BW := Lib.hid (BW.out.grown hBd.grown BW.out.size (fun q hq => by cases hq; omega))
      clear hBd hE0 hE
      go_wp2_with fail
      refine (wakes3_any _).mono ?_
      rintro e we ⟨rfl, hB⟩
      replace BW := Lib.hid (BW.out.trans (hB.mono BW.out.size))
      clear hB
      go_wp2
      go_ret
      exact ⟨rfl, BW.out⟩

    case pos =>
      subst hE0
      obtain ⟨y, hyt, hS9, hya⟩ := hBd.yes hE.symm
      obtain ⟨hv0, hσv⟩ := (⟨bindE_nn hE.symm, bindE_zero hE.symm⟩ : 0 ≤ v ∧ σ v = none)
      have hwV : wk σ ⟨1, ⟨#[]⟩, v, none, 0, .nil⟩ = ⟨1, ⟨#[]⟩, v, none, 0, .nil⟩ := wk_stop (.inr hσv)
      have hQk : Q.k = 1 := by rw [HQ.out]; simp only [hwV]
      have hQn : Q.n = v := by rw [HQ.out]; simp only [hwV]
      replace XQ := Lib.hid (XQ.out.keeps hBd.grown (by omega))
      replace XX := Lib.hid (XX.out.keeps hBd.grown (by omega))
      replace XT := Lib.hid (XT.out.keeps hBd.grown (by omega))
      replace XA := Lib.hid (SS.out.keeps hBd.grown XA.out)
      have XK := Lib.hid (HAP.out.nd_ok (SS.out.wk_ok OK.out (TAT.out.below BW.out) hts))
      replace BW := Lib.hid (BW.out.grown hBd.grown BW.out.size (fun q hq => by cases hq; omega))
      have SV := Lib.hid hσv
      have EN := Lib.hid SS.out.ends
      have SR := Lib.hid hS9
      have RV : Hid ((wk (σ.put v y) ⟨1, ⟨#[]⟩, v, none, 0, .nil⟩) = wk (σ.put v y) y) := Lib.hid (wk_go hS9.ends rfl (by simp [Sb.put]))
      obtain ⟨ρ, hρ⟩ : ∃ ρ, ρ = σ.put v y := ⟨_, rfl⟩
      have RE := Lib.hid hρ
      rw [← hρ] at SR RV
      clear hBd hE hyt hS9 hya hσv hwV hρ SS
      have c0 := XT.out.c0
      have c1 := XT.out.c1
      have c2 := XT.out.c2
      have c3 := XT.out.c3
      go_upto_region 11 with fail
      go_wp2_with fail
      refine (apply_any S ρ (N + 1) w9 SR.out t OK.out (TAT.out.below BW.out) hts).mono ?_
      rintro e w10 ⟨hA, hB⟩
      replace XX := Lib.hid (XX.out.below hB)
      replace XA := Lib.hid (XA.out.below hB)
      replace XQ := Lib.hid (XQ.out.below hB)
      replace SR := Lib.hid (SR.out.below hB)
      replace BW := Lib.hid (BW.out.trans (hB.mono BW.out.size))
      clear hB c0 c1 c2 c3
      rcases hA.cases with ⟨-, rfl⟩ | ⟨hvis2, Y, rfl, hapY, hyat⟩
      · clear hA
        go_wp2_with fail
        refine (V_any _ _).mono ?_
        rintro e w11 ⟨rfl, hB⟩
        unfold tv
        have hB5 : Below w10.heap.size w10 w11 := ((Below.refl _ _).alloc (Nat.le_refl _) _).trans (hB.mono (by simp))
        replace SR := Lib.hid (SR.out.below hB5)
        replace BW := Lib.hid (BW.out.trans (hB5.mono BW.out.size))
        clear hB hB5
        go_wp2_with fail
        refine (apply_any S ρ (N + 1) w11 SR.out ⟨1, ⟨#[]⟩, v, none, 0, .nil⟩ (nd_ok (by omega) (by simp [ByteArray.size]) HV.out (by simp [Ts.len]) (fun _ => rfl) trivial) ⟨0, 0, .inl rfl, trivial⟩ (by simp [Ts.size])).mono ?_
        rintro e w12 ⟨hA, hB⟩
        obtain ⟨O, G, rfl⟩ := hA.some
        replace BW := Lib.hid (BW.out.trans (hB.mono BW.out.size))
        have hB6 : Below w12.heap.size w12 (w12.alloc (.cells #[.int .u8 O.k, .string O.s, .int .i64 O.n, .slice O.p O.kids.len O.c] 24)) := (Below.refl _ _).alloc (Nat.le_refl _) _
        replace BW := Lib.hid (BW.out.trans (hB6.mono BW.out.size))
        clear hA hB hB6
        go_wp2_with fail
        refine (wakes3_any _).mono ?_
        rintro e we ⟨rfl, hB⟩
        replace BW := Lib.hid (BW.out.trans (hB.mono BW.out.size))
        clear hB
        go_wp2
        go_ret
        exact ⟨rfl, BW.out⟩

      · have HAPY := Lib.hid hapY
        have YA := Lib.hid hyat
        clear hA hapY hyat
        obtain ⟨W11, hW11⟩ : ∃ W, W = w10.alloc (.cells #[.int .u8 Y.k, .string Y.s, .int .i64 Y.n, .slice Y.p Y.kids.len Y.c] 24) := ⟨_, rfl⟩
        have hB5 : Below w10.heap.size w10 W11 := by rw [hW11]; exact (Below.refl _ _).alloc (Nat.le_refl _) _
        obtain ⟨BY, hBY⟩ : ∃ b, b = w10.heap.size := ⟨_, rfl⟩
        have XY := Lib.hid (by rw [hBY, hW11]; exact BoxIs.new w10 Y 24 : BoxIs BY Y W11)
        have Z11 := Lib.hid hW11
        have YK := Lib.hid (HAPY.out.nd_ok (SR.out.wk_ok OK.out (TAT.out.below BW.out) hts))
        replace YA := Lib.hid (YA.out.at.below hB5)
        replace XX := Lib.hid (XX.out.below hB5)
        replace XA := Lib.hid (XA.out.below hB5)
        replace XQ := Lib.hid (XQ.out.below hB5)
        replace SR := Lib.hid (SR.out.below hB5)
        replace BW := Lib.hid (BW.out.trans (hB5.mono BW.out.size))
        clear hB5 hW11
        go_upto_region 12 with fail
        rw [← Z11.out, ← hBY]
        clear hBY
        go_wp2_with fail
        refine (V_any _ _).mono ?_
        rintro e w12 ⟨rfl, hB⟩
        unfold tv
        replace XX := Lib.hid (XX.out.below hB)
        replace XA := Lib.hid (XA.out.below hB)
        replace XQ := Lib.hid (XQ.out.below hB)
        replace SR := Lib.hid (SR.out.below hB)
        replace XY := Lib.hid (XY.out.below hB)
        replace YA := Lib.hid (YA.out.below hB)
        replace BW := Lib.hid (BW.out.trans (hB.mono BW.out.size))
        clear hB
        go_wp2_with fail
        refine (apply_any S ρ (N + 1) w12 SR.out ⟨1, ⟨#[]⟩, v, none, 0, .nil⟩ (nd_ok (by omega) (by simp [ByteArray.size]) HV.out (by simp [Ts.len]) (fun _ => rfl) trivial) ⟨0, 0, .inl rfl, trivial⟩ (by simp [Ts.size])).mono ?_
        rintro e w13 ⟨hA, hB⟩
        replace XX := Lib.hid (XX.out.below hB)
        replace XA := Lib.hid (XA.out.below hB)
        replace XQ := Lib.hid (XQ.out.below hB)
        replace SR := Lib.hid (SR.out.below hB)
        replace XY := Lib.hid (XY.out.below hB)
        replace YA := Lib.hid (YA.out.below hB)
        replace BW := Lib.hid (BW.out.trans (hB.mono BW.out.size))
        clear hB
        rcases hA.cases with ⟨-, rfl⟩ | ⟨-, O, rfl, hapO, hoat⟩
        · clear hA
          have hB6 : Below w13.heap.size w13 (w13.alloc (.cells #[.int .u8 0, .string ⟨#[]⟩, .int .i64 0, .slice none 0 0] 24)) := (Below.refl _ _).alloc (Nat.le_refl _) _
          replace BW := Lib.hid (BW.out.trans (hB6.mono BW.out.size))
          clear hB6
          go_wp2_with fail
          refine (wakes3_any _).mono ?_
          rintro e we ⟨rfl, hB⟩
          replace BW := Lib.hid (BW.out.trans (hB.mono BW.out.size))
          clear hB
          go_wp2
          go_ret
          exact ⟨rfl, BW.out⟩

        · have HAPO := Lib.hid hapO
          have OA := Lib.hid hoat
          have OK3 := Lib.hid (hapO.nd_ok (SR.out.wk_ok (nd_ok (by omega) (by simp [ByteArray.size]) HV.out (by simp [Ts.len]) (fun _ => rfl) trivial) ⟨0, 0, .inl rfl, trivial⟩ (by simp [Ts.size])))
          clear hA hapO hoat
          obtain ⟨W14, hW14⟩ : ∃ W, W = w13.alloc (.cells #[.int .u8 O.k, .string O.s, .int .i64 O.n, .slice O.p O.kids.len O.c] 24) := ⟨_, rfl⟩
          have hB5 : Below w13.heap.size w13 W14 := by rw [hW14]; exact (Below.refl _ _).alloc (Nat.le_refl _) _
          obtain ⟨BO, hBO⟩ : ∃ b, b = w13.heap.size := ⟨_, rfl⟩
          have XO2 := Lib.hid (by rw [hBO, hW14]; exact BoxIs.new w13 O 24 : BoxIs BO O W14)
          have Z14 := Lib.hid hW14
          replace OA := Lib.hid (OA.out.at.below hB5)
          replace XX := Lib.hid (XX.out.below hB5)
          replace XA := Lib.hid (XA.out.below hB5)
          replace XQ := Lib.hid (XQ.out.below hB5)
          replace SR := Lib.hid (SR.out.below hB5)
          replace XY := Lib.hid (XY.out.below hB5)
          replace YA := Lib.hid (YA.out.below hB5)
          replace BW := Lib.hid (BW.out.trans (hB5.mono BW.out.size))
          clear hB5 hW14
          go_upto_region 15 with fail
          rw [← Z14.out, ← hBO]
          clear hBO
          have TWX : Hid ((Nd.mk Y.k Y.s Y.n Y.p Y.c Y.kids).twin (putN v O X)) := Lib.hid (by
            have hh := App.put_twin (v := v) (x := y) (O := O) EN.out (by rw [← RE.out]; exact SR.out.ends) SV.out (by rw [← RE.out, ← RV.out]; exact HAPO.out.k) (by rw [← RE.out, ← RV.out]; exact HAPO.out.s) (by rw [← RE.out, ← RV.out]; exact HAPO.out.n) (by rw [← RE.out, ← RV.out]; exact HAPO.out.app)
              (l := [t]) (us := .cons X.k X.s X.n X.p X.c X.kids .nil) (by rw [HAP.out.k, HAP.out.s, HAP.out.n]; exact .cons HAP.out.app .nil) (vs := .cons Y.k Y.s Y.n Y.p Y.c Y.kids .nil) (by rw [← RE.out, HAPY.out.k, HAPY.out.s, HAPY.out.n]; exact .cons HAPY.out.app .nil)
            rw [(put_mapper v O).cons] at hh
            exact ⟨hh.1, hh.2.1, hh.2.2.1, hh.2.2.2.1⟩)
          refine region_by_facts (fun W_ => Below W14.heap.size W14 W_) [fun u _ => u = .pointer (some ⟨BQ, 0, none⟩), fun u _ => u = .int .u8 1, fun u _ => u = .bool true, fun u _ => u = .bool true, fun u _ => u = .pointer (some ⟨BQ, 2, none⟩), fun u _ => u = .int .i64 v, fun u _ => u = .int .i64 v, fun u _ => u = .bool true, fun u _ => u = .bool true, fun u _ => u = .bool true, fun u _ => u = .agg #[.int .u8 Y.k, .string Y.s, .int .i64 Y.n, .slice Y.p Y.kids.len Y.c], fun u _ => u = .agg #[.int .u8 X.k, .string X.s, .int .i64 X.n, .slice X.p X.kids.len X.c], fun u _ => u = .int .i64 v, fun u _ => u = .agg #[.int .u8 O.k, .string O.s, .int .i64 O.n, .slice O.p O.kids.len O.c], fun u W => MadeN W14.heap.size (putN v O X) W14.heap.size u W, fun u _ => u = .bool true, fun u _ => u = .bool true, fun u _ => u = .bool true, fun u _ => u = .bool true, fun u _ => u = .bool true, fun u _ => u = .bool true]
            ⟨.eq _, .eq _, .eq _, .eq _, .eq _, .eq _, .eq _, .eq _, .eq _, .eq _, .eq _, .eq _, .eq _, .eq _, (fun _ _ _ h hB => h.below hB), .eq _, .eq _, .eq _, .eq _, .eq _, .eq _, trivial⟩ (by kernel_rfl) (by kernel_rfl) (by kernel_rfl) ?h0 ?steps ?done
          case h0 => exact (Below.refl _ _).drew
          case steps =>
            refine ⟨?_, ?_, ?_, ?_, ?_, ?_, ?_, ?_, ?_, ?_, ?_, ?_, ?_, ?_, ?_, ?_, ?_, ?_, ?_, ?_, ?_, trivial⟩
            · intro g_ W_ hI hd K hK
              simp only [frameOf, Act.put, List.setIfInBounds_toArray, List.set_cons_zero, List.set_cons_succ]
              go_simp
              refine hK.out (.pointer (some ⟨BQ, 0, none⟩)) _ W_ ?_ hI (Below.refl _ _) rfl
              simp only [frameOf, Act.put, List.setIfInBounds_toArray, List.set_cons_zero, List.set_cons_succ, Nat.zero_add, Nat.reduceAdd]
            · intro g_ W_ hI hd K hK
              simp only [frameOf, Act.put, List.setIfInBounds_toArray, List.set_cons_zero, List.set_cons_succ]
              have h0 : g_ 0 = .pointer (some ⟨BQ, 0, none⟩) := hd 0 (by kernel_rfl)
              rw [h0]
              have e0 := (XQ.out.below hI).c0
              rw [hQk] at e0
              go_simp
              refine hK.out (.int .u8 1) _ W_ ?_ hI (Below.refl _ _) rfl
              simp only [frameOf, Act.put, List.setIfInBounds_toArray, List.set_cons_zero, List.set_cons_succ, Nat.zero_add, Nat.reduceAdd, h0]
            · intro g_ W_ hI hd K hK
              simp only [frameOf, Act.put, List.setIfInBounds_toArray, List.set_cons_zero, List.set_cons_succ]
              have h1 : g_ 1 = .int .u8 1 := hd 1 (by kernel_rfl)
              rw [h1]
              go_simp
              refine hK.out (.bool true) _ W_ ?_ hI (Below.refl _ _) rfl
              simp only [frameOf, Act.put, List.setIfInBounds_toArray, List.set_cons_zero, List.set_cons_succ, Nat.zero_add, Nat.reduceAdd, h1]
            · intro g_ W_ hI hd K hK
              simp only [frameOf, Act.put, List.setIfInBounds_toArray, List.set_cons_zero, List.set_cons_succ]
              have h2 : g_ 2 = .bool true := hd 2 (by kernel_rfl)
              rw [h2]
              go_simp
              refine hK.out (.bool true) _ W_ ?_ hI (Below.refl _ _) rfl
              simp only [frameOf, Act.put, List.setIfInBounds_toArray, List.set_cons_zero, List.set_cons_succ, Nat.zero_add, Nat.reduceAdd, h2]
            · intro g_ W_ hI hd K hK
              simp only [frameOf, Act.put, List.setIfInBounds_toArray, List.set_cons_zero, List.set_cons_succ]
              have h3 : g_ 3 = .bool true := hd 3 (by kernel_rfl)
              rw [h3]
              go_simp
              refine hK.out (.pointer (some ⟨BQ, 2, none⟩)) _ W_ ?_ hI (Below.refl _ _) rfl
              simp only [frameOf, Act.put, List.setIfInBounds_toArray, List.set_cons_zero, List.set_cons_succ, Nat.zero_add, Nat.reduceAdd, h3]
            · intro g_ W_ hI hd K hK
              simp only [frameOf, Act.put, List.setIfInBounds_toArray, List.set_cons_zero, List.set_cons_succ]
              have h3 : g_ 3 = .bool true := hd 3 (by kernel_rfl)
              have h4 : g_ 4 = .pointer (some ⟨BQ, 2, none⟩) := hd 4 (by kernel_rfl)
              rw [h3, h4]
              have e0 := (XQ.out.below hI).c2
              rw [hQn] at e0
              go_simp
              refine hK.out (.int .i64 v) _ W_ ?_ hI (Below.refl _ _) rfl
              simp only [frameOf, Act.put, List.setIfInBounds_toArray, List.set_cons_zero, List.set_cons_succ, Nat.zero_add, Nat.reduceAdd, h3, h4]
            · intro g_ W_ hI hd K hK
              simp only [frameOf, Act.put, List.setIfInBounds_toArray, List.set_cons_zero, List.set_cons_succ]
              have h3 : g_ 3 = .bool true := hd 3 (by kernel_rfl)
              rw [h3]
              go_simp
              refine hK.out (.int .i64 v) _ W_ ?_ hI (Below.refl _ _) rfl
              simp only [frameOf, Act.put, List.setIfInBounds_toArray, List.set_cons_zero, List.set_cons_succ, Nat.zero_add, Nat.reduceAdd, h3]
            · intro g_ W_ hI hd K hK
              simp only [frameOf, Act.put, List.setIfInBounds_toArray, List.set_cons_zero, List.set_cons_succ]
              have h3 : g_ 3 = .bool true := hd 3 (by kernel_rfl)
              have h5 : g_ 5 = .int .i64 v := hd 5 (by kernel_rfl)
              have h6 : g_ 6 = .int .i64 v := hd 6 (by kernel_rfl)
              rw [h3, h5, h6]
              go_simp
              refine hK.out (.bool true) _ W_ ?_ hI (Below.refl _ _) rfl
              simp only [frameOf, Act.put, List.setIfInBounds_toArray, List.set_cons_zero, List.set_cons_succ, Nat.zero_add, Nat.reduceAdd, h3, h5, h6]
            · intro g_ W_ hI hd K hK
              simp only [frameOf, Act.put, List.setIfInBounds_toArray, List.set_cons_zero, List.set_cons_succ]
              have h3 : g_ 3 = .bool true := hd 3 (by kernel_rfl)
              have h7 : g_ 7 = .bool true := hd 7 (by kernel_rfl)
              rw [h3, h7]
              go_simp
              refine hK.out (.bool true) _ W_ ?_ hI (Below.refl _ _) rfl
              simp only [frameOf, Act.put, List.setIfInBounds_toArray, List.set_cons_zero, List.set_cons_succ, Nat.zero_add, Nat.reduceAdd, h3, h7]
            · intro g_ W_ hI hd K hK
              simp only [frameOf, Act.put, List.setIfInBounds_toArray, List.set_cons_zero, List.set_cons_succ]
              have h8 : g_ 8 = .bool true := hd 8 (by kernel_rfl)
              rw [h8]
              go_simp
              refine hK.out (.bool true) _ W_ ?_ hI (Below.refl _ _) rfl
              simp only [frameOf, Act.put, List.setIfInBounds_toArray, List.set_cons_zero, List.set_cons_succ, Nat.zero_add, Nat.reduceAdd, h8]
            · intro g_ W_ hI hd K hK
              simp only [frameOf, Act.put, List.setIfInBounds_toArray, List.set_cons_zero, List.set_cons_succ]
              have h9 : g_ 9 = .bool true := hd 9 (by kernel_rfl)
              rw [h9]
              have XW := XY.out.below hI
              have e0 := XW.c0
              have e1 := XW.c1
              have e2 := XW.c2
              have e3 := XW.c3
              go_simp
              refine hK.out (.agg #[.int .u8 Y.k, .string Y.s, .int .i64 Y.n, .slice Y.p Y.kids.len Y.c]) _ W_ ?_ hI (Below.refl _ _) rfl
              simp only [frameOf, Act.put, List.setIfInBounds_toArray, List.set_cons_zero, List.set_cons_succ, Nat.zero_add, Nat.reduceAdd, h9]
            · intro g_ W_ hI hd K hK
              simp only [frameOf, Act.put, List.setIfInBounds_toArray, List.set_cons_zero, List.set_cons_succ]
              have h9 : g_ 9 = .bool true := hd 9 (by kernel_rfl)
              rw [h9]
              have XW := XX.out.below hI
              have e0 := XW.c0
              have e1 := XW.c1
              have e2 := XW.c2
              have e3 := XW.c3
              go_simp
              refine hK.out (.agg #[.int .u8 X.k, .string X.s, .int .i64 X.n, .slice X.p X.kids.len X.c]) _ W_ ?_ hI (Below.refl _ _) rfl
              simp only [frameOf, Act.put, List.setIfInBounds_toArray, List.set_cons_zero, List.set_cons_succ, Nat.zero_add, Nat.reduceAdd, h9]
            · intro g_ W_ hI hd K hK
              simp only [frameOf, Act.put, List.setIfInBounds_toArray, List.set_cons_zero, List.set_cons_succ]
              have h9 : g_ 9 = .bool true := hd 9 (by kernel_rfl)
              rw [h9]
              go_simp
              refine hK.out (.int .i64 v) _ W_ ?_ hI (Below.refl _ _) rfl
              simp only [frameOf, Act.put, List.setIfInBounds_toArray, List.set_cons_zero, List.set_cons_succ, Nat.zero_add, Nat.reduceAdd, h9]
            · intro g_ W_ hI hd K hK
              simp only [frameOf, Act.put, List.setIfInBounds_toArray, List.set_cons_zero, List.set_cons_succ]
              have h9 : g_ 9 = .bool true := hd 9 (by kernel_rfl)
              rw [h9]
              have XW := XO2.out.below hI
              have e0 := XW.c0
              have e1 := XW.c1
              have e2 := XW.c2
              have e3 := XW.c3
              go_simp
              refine hK.out (.agg #[.int .u8 O.k, .string O.s, .int .i64 O.n, .slice O.p O.kids.len O.c]) _ W_ ?_ hI (Below.refl _ _) rfl
              simp only [frameOf, Act.put, List.setIfInBounds_toArray, List.set_cons_zero, List.set_cons_succ, Nat.zero_add, Nat.reduceAdd, h9]
            · intro g_ W_ hI hd K hK
              simp only [frameOf, Act.put, List.setIfInBounds_toArray, List.set_cons_zero, List.set_cons_succ]
              have h9 : g_ 9 = .bool true := hd 9 (by kernel_rfl)
              have h11 : g_ 11 = .agg #[.int .u8 X.k, .string X.s, .int .i64 X.n, .slice X.p X.kids.len X.c] := hd 11 (by kernel_rfl)
              have h12 : g_ 12 = .int .i64 v := hd 12 (by kernel_rfl)
              have h13 : g_ 13 = .agg #[.int .u8 O.k, .string O.s, .int .i64 O.n, .slice O.p O.kids.len O.c] := hd 13 (by kernel_rfl)
              rw [h9, h11, h12, h13]
              go_simp
              refine (put_any W14.heap.size O v OK3.out (X.kids.size + 1) X (Nat.lt_succ_self _) (by have := HAP.out.sz; omega) XK.out W_ hI.size ((OA.out.atP).stay (fun b hb _ => hI.block b hb)) (XA.out.below hI)).mono ?_
              rintro e w' ⟨v', rfl, hR, hB⟩
              refine hK.out v' _ w' ?_ (hI.trans (hB.mono hI.size)) hB (hR.mono hI.size)
              simp only [frameOf, Act.put, List.setIfInBounds_toArray, List.set_cons_zero, List.set_cons_succ, Nat.zero_add, Nat.reduceAdd, h9, h11, h12, h13]
            · intro g_ W_ hI hd K hK
              simp only [frameOf, Act.put, List.setIfInBounds_toArray, List.set_cons_zero, List.set_cons_succ]
              have h9 : g_ 9 = .bool true := hd 9 (by kernel_rfl)
              have h10 : g_ 10 = .agg #[.int .u8 Y.k, .string Y.s, .int .i64 Y.n, .slice Y.p Y.kids.len Y.c] := hd 10 (by kernel_rfl)
              obtain ⟨us, q9, d9, h14, hq9, ha9, hk9, hc9, hn9⟩ := hd 14 (by kernel_rfl)
              rw [h9, h10, h14]
              unfold tv at h14 ⊢
              go_simp
              refine (same_twins (x := Y) (y := ⟨(putN v O X).k, (putN v O X).s, (putN v O X).n, q9, d9, us⟩) ⟨TWX.out.1, TWX.out.2.1, TWX.out.2.2.1, twin_trans TWX.out.2.2.2 (Ts.twin_symm _ _ ha9)⟩ HAPY.out.ok hk9 (by have h1 := Ts.len_size Y.kids; have h2 := HAPY.out.sz; omega) W_ (YA.out.below hI) (AtP_at hq9)).mono ?_
              rintro e w' ⟨rfl, hB⟩
              refine hK.out (.bool true) _ w' ?_ (hI.trans (hB.mono hI.size)) hB rfl
              simp only [frameOf, Act.put, List.setIfInBounds_toArray, List.set_cons_zero, List.set_cons_succ, Nat.zero_add, Nat.reduceAdd, h9, h10, h14]
            · intro g_ W_ hI hd K hK
              simp only [frameOf, Act.put, List.setIfInBounds_toArray, List.set_cons_zero, List.set_cons_succ]
              have h9 : g_ 9 = .bool true := hd 9 (by kernel_rfl)
              have h15 : g_ 15 = .bool true := hd 15 (by kernel_rfl)
              rw [h9, h15]
              go_simp
              refine hK.out (.bool true) _ W_ ?_ hI (Below.refl _ _) rfl
              simp only [frameOf, Act.put, List.setIfInBounds_toArray, List.set_cons_zero, List.set_cons_succ, Nat.zero_add, Nat.reduceAdd, h9, h15]
            · intro g_ W_ hI hd K hK
              simp only [frameOf, Act.put, List.setIfInBounds_toArray, List.set_cons_zero, List.set_cons_succ]
              have h16 : g_ 16 = .bool true := hd 16 (by kernel_rfl)
              rw [h16]
              go_simp
              refine hK.out (.bool true) _ W_ ?_ hI (Below.refl _ _) rfl
              simp only [frameOf, Act.put, List.setIfInBounds_toArray, List.set_cons_zero, List.set_cons_succ, Nat.zero_add, Nat.reduceAdd, h16]
            · intro g_ W_ hI hd K hK
              simp only [frameOf, Act.put, List.setIfInBounds_toArray, List.set_cons_zero, List.set_cons_succ]
              have h17 : g_ 17 = .bool true := hd 17 (by kernel_rfl)
              rw [h17]
              go_simp
              refine (wakes3_any W_).mono ?_
              rintro e w' ⟨rfl, hB⟩
              refine hK.out (.bool true) _ w' ?_ (hI.trans (hB.mono hI.size)) hB rfl
              simp only [frameOf, Act.put, List.setIfInBounds_toArray, List.set_cons_zero, List.set_cons_succ, Nat.zero_add, Nat.reduceAdd, h17]
            · intro g_ W_ hI hd K hK
              simp only [frameOf, Act.put, List.setIfInBounds_toArray, List.set_cons_zero, List.set_cons_succ]
              have h17 : g_ 17 = .bool true := hd 17 (by kernel_rfl)
              have h18 : g_ 18 = .bool true := hd 18 (by kernel_rfl)
              rw [h17, h18]
              go_simp
              refine hK.out (.bool true) _ W_ ?_ hI (Below.refl _ _) rfl
              simp only [frameOf, Act.put, List.setIfInBounds_toArray, List.set_cons_zero, List.set_cons_succ, Nat.zero_add, Nat.reduceAdd, h17, h18]
            · intro g_ W_ hI hd K hK
              simp only [frameOf, Act.put, List.setIfInBounds_toArray, List.set_cons_zero, List.set_cons_succ]
              have h19 : g_ 19 = .bool true := hd 19 (by kernel_rfl)
              rw [h19]
              go_simp
              refine hK.out (.bool true) _ W_ ?_ hI (Below.refl _ _) rfl
              simp only [frameOf, Act.put, List.setIfInBounds_toArray, List.set_cons_zero, List.set_cons_succ, Nat.zero_add, Nat.reduceAdd, h19]
          case done =>
            intro f_ W_ hI hd
            have h20 : f_ 20 = .bool true := hd 20 (by decide)
            simp only [frameOf, Act.put, List.setIfInBounds_toArray, List.set_cons_zero, List.set_cons_succ, Nat.zero_add, Nat.reduceAdd, h20]
            clear hd
            go_wp2
            go_ret
            exact ⟨rfl, BW.out.trans (hI.mono BW.out.size)⟩

end Go.Proofs.Ytflomdnjabgnaaa
