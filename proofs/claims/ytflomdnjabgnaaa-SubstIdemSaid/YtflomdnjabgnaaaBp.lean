import Derived.Test.YtflomdnjabgnaaaBo
import Derived.Test.YtflomdnjabgnaaaBl
import Derived.Test.YtflomdnjabgnaaaTv0
/-
  The law SubstIdem, walked. (Written by gen_bp.py.)
-/
namespace Go.Proofs.Ytflomdnjabgnaaa
open Go.RowKit

theorem eqb_of {E : Int} {a b : Int} {x : Bool} (h1 : (E == 0) = x) (h2 : (a == b) = x) : ((E == 0) == (a == b)) = true := by rw [h1, h2]; simp

set_option maxRecDepth 100000 in
set_option maxHeartbeats 16000000 in
theorem substIdem_true (l : List (Int × Nd)) (t tb : Nd) (v : Int) (hl63 : l.length ≤ 9223372036854775807) (hbok : (bsTs l).ok) (hvr : ∀ e ∈ l, -9223372036854775808 ≤ e.1 ∧ e.1 ≤ 9223372036854775807) (w : World) (lp : Option Addr) (lc : Nat) (hat : BsAt w lp l) (hok : t.ok) (htat : Ts.At w t.p t.kids) (hok2 : tb.ok) (htat2 : Ts.At w tb.p tb.kids) (hv : -9223372036854775808 ≤ v ∧ v ≤ 9223372036854775807) :
    Calls Try.prog 5 #[.slice lp l.length lc, .agg #[.int .u8 t.k, .string t.s, .int .i64 t.n, .slice t.p t.kids.len t.c], .agg #[.int .u8 tb.k, .string tb.s, .int .i64 tb.n, .slice tb.p tb.kids.len tb.c], .int .i64 v] w fun e w' => e = .returned (.bool true) ∧ Below w.heap.size w w' := by
  have BOK := Lib.hid hbok
  have VR := Lib.hid hvr
  have AT := Lib.hid hat
  have OK := Lib.hid hok
  have TAT := Lib.hid htat
  have OK2 := Lib.hid hok2
  have TAT2 := Lib.hid htat2
  have HV := Lib.hid hv
  obtain ⟨g, hg⟩ : ∃ g, g = bGreat l t := ⟨_, rfl⟩
  have GG := Lib.hid hg
  obtain ⟨g2, hg2⟩ : ∃ g, g = bGreat [] tb := ⟨_, rfl⟩
  have GG2 := Lib.hid hg2
  clear hbok hvr hat hok htat hg hok2 htat2 hg2
  go_enter Try.func5, Try.ntmps5
  go_upto_region 1 with fail
  obtain ⟨W0, hW0⟩ : ∃ W0, W0 = (w.alloc (.cells #[.int .u8 t.k, .string t.s, .int .i64 t.n, .slice t.p t.kids.len t.c] 24)).alloc (.cells #[.int .u8 tb.k, .string tb.s, .int .i64 tb.n, .slice tb.p tb.kids.len tb.c] 24) := ⟨_, rfl⟩
  rw [← hW0]
  have hB0 : Below w.heap.size w W0 := by rw [hW0]; exact below2 _ _ _
  have hXt : BoxIs w.heap.size t W0 := by rw [hW0]; exact (BoxIs.new w t _).below ((Below.refl _ _).alloc (Nat.le_refl _) _)
  have hXo : BoxIs (w.heap.size + 1) tb W0 := by
    have := BoxIs.new (w.alloc (.cells #[.int .u8 t.k, .string t.s, .int .i64 t.n, .slice t.p t.kids.len t.c] 24)) tb 24
    rw [World.size_alloc] at this
    rw [hW0]; exact this
  have BW := Lib.hid hB0
  have XT := Lib.hid hXt
  have XO := Lib.hid hXo
  have Z0 := Lib.hid hW0
  have c0 := hXt.c0
  have c1 := hXt.c1
  have c2 := hXt.c2
  have c3 := hXt.c3
  clear hW0 hB0 hXt hXo
  go_wp2_with fail
  refine (bgreat_any l t hl63 BOK.out _ lp lc (AT.out.below BW.out) OK.out (TAT.out.below BW.out)).mono ?_
  rintro e w1 ⟨rfl, hB⟩
  rw [← GG.out]
  replace XT := Lib.hid (XT.out.below hB)
  replace XO := Lib.hid (XO.out.below hB)
  replace BW := Lib.hid (BW.out.trans (hB.mono BW.out.size))
  clear hB c0 c1 c2 c3
  cases g with
  | true =>
    go_wp2_with fail
    refine (wakes3_any _).mono ?_
    rintro e we ⟨rfl, hB⟩
    replace BW := Lib.hid (BW.out.trans (hB.mono BW.out.size))
    clear hB
    go_wp2
    go_ret
    exact ⟨rfl, BW.out⟩

  | false =>
  have d0 := XO.out.c0
  have d1 := XO.out.c1
  have d2 := XO.out.c2
  have d3 := XO.out.c3
  go_wp2_with fail
  refine (bgreat_any [] tb (by simp) trivial _ none 0 (bsAt_nil _) OK2.out (TAT2.out.below BW.out)).mono ?_
  rintro e w2 ⟨rfl, hB⟩
  rw [← GG2.out]
  replace XT := Lib.hid (XT.out.below hB)
  replace XO := Lib.hid (XO.out.below hB)
  replace BW := Lib.hid (BW.out.trans (hB.mono BW.out.size))
  clear hB d0 d1 d2 d3
  cases g2 with
  | true =>
    go_wp2_with fail
    refine (wakes3_any _).mono ?_
    rintro e we ⟨rfl, hB⟩
    replace BW := Lib.hid (BW.out.trans (hB.mono BW.out.size))
    clear hB
    go_wp2
    go_ret
    exact ⟨rfl, BW.out⟩

  | false =>
  obtain ⟨hl40, hts, hbs⟩ := bGreat_size GG.out.symm
  have hts2 := bGreat_nil GG2.out.symm
  go_wp2_with fail
  refine (make_any l hl40 BOK.out hbs VR.out w2 lp lc (AT.out.below BW.out)).mono ?_
  rintro e w3 ⟨had, σ, q, c, rfl, hba, hhl, hS, hST, hsm, hB⟩
  obtain ⟨S, hSe⟩ : ∃ S, S = w2.heap.size := ⟨_, rfl⟩
  rw [← hSe] at hS
  have SE := Lib.hid hSe
  have SS := Lib.hid hS
  have hXOl := XO.out.lt
  replace XT := Lib.hid (XT.out.below hB)
  replace XO := Lib.hid (XO.out.below hB)
  replace BW := Lib.hid (BW.out.trans (hB.mono BW.out.size))
  have hSw : w.heap.size + 1 < S := by rw [SE.out]; exact hXOl
  have hn40 : had.length < 1000000 := by omega
  clear hba hS hST hsm hB hXOl
  rw [← hSe]
  clear hSe
  obtain ⟨N, hN⟩ : ∃ N, N = had.length := ⟨_, rfl⟩
  rw [← hN] at SS hn40 ⊢
  clear hN hhl
  go_wp2_with fail
  refine (sbclone_any S σ N w3 SS.out).mono ?_
  rintro e w4 ⟨rfl, hS2, hB⟩
  obtain ⟨S2, hS2e⟩ : ∃ S2, S2 = w3.heap.size := ⟨_, rfl⟩
  rw [← hS2e] at hS2 ⊢
  have hSS2 : S < S2 := by rw [hS2e]; exact SS.out.lt
  have S2E := Lib.hid hS2e
  have SC := Lib.hid hS2
  clear hS2e hS2
  replace XT := Lib.hid (XT.out.below hB)
  replace XO := Lib.hid (XO.out.below hB)
  replace SS := Lib.hid (SS.out.below hB)
  replace BW := Lib.hid (BW.out.trans (hB.mono BW.out.size))
  clear hB
  have c0 := XT.out.c0
  have c1 := XT.out.c1
  have c2 := XT.out.c2
  have c3 := XT.out.c3
  go_wp2_with fail
  refine (apply_any S σ N w4 SS.out t OK.out (TAT.out.below BW.out) hts).mono ?_
  rintro e w5 ⟨hA, hB⟩
  replace XT := Lib.hid (XT.out.below hB)
  replace XO := Lib.hid (XO.out.below hB)
  replace SS := Lib.hid (SS.out.below hB)
  replace SC := Lib.hid (SC.out.below hB)
  replace BW := Lib.hid (BW.out.trans (hB.mono BW.out.size))
  clear hB c0 c1 c2 c3
  rcases hA.cases with ⟨-, rfl⟩ | ⟨hvis, X, rfl, hap, hxat⟩
  · clear hA
    have hB5 : Below w5.heap.size w5 (w5.alloc (.cells #[.int .u8 0, .string ⟨#[]⟩, .int .i64 0, .slice none 0 0] 24)) := (Below.refl _ _).alloc (Nat.le_refl _) _
    replace BW := Lib.hid (BW.out.trans (hB5.mono BW.out.size))
    clear hB5
    go_wp2_with fail
    refine (wakes3_any _).mono ?_
    rintro e we ⟨rfl, hB⟩
    replace BW := Lib.hid (BW.out.trans (hB.mono BW.out.size))
    clear hB
    go_wp2
    go_ret
    exact ⟨rfl, BW.out⟩

  · have HAP := Lib.hid hap
    have XA := Lib.hid hxat
    have XK := Lib.hid (HAP.out.nd_ok (SS.out.wk_ok OK.out (TAT.out.below BW.out) hts))
    have EN := Lib.hid SS.out.ends
    have hxs : X.kids.size ≤ 5000 := by have := hap.sz; omega
    have VI := Lib.hid hvis
    clear hA hap hxat hvis
    obtain ⟨W6, hW6⟩ : ∃ W, W = w5.alloc (.cells #[.int .u8 X.k, .string X.s, .int .i64 X.n, .slice X.p X.kids.len X.c] 24) := ⟨_, rfl⟩
    have hB5 : Below w5.heap.size w5 W6 := by rw [hW6]; exact (Below.refl _ _).alloc (Nat.le_refl _) _
    obtain ⟨BX, hBX⟩ : ∃ b, b = w5.heap.size := ⟨_, rfl⟩
    have XX := Lib.hid (by rw [hBX, hW6]; exact BoxIs.new w5 X 24 : BoxIs BX X W6)
    have Z6 := Lib.hid hW6
    have hSB : S2 < BX := by rw [hBX]; exact SC.out.lt
    replace XA := Lib.hid (XA.out.at.below hB5)
    replace XT := Lib.hid (XT.out.below hB5)
    replace XO := Lib.hid (XO.out.below hB5)
    replace SS := Lib.hid (SS.out.below hB5)
    replace SC := Lib.hid (SC.out.below hB5)
    replace BW := Lib.hid (BW.out.trans (hB5.mono BW.out.size))
    clear hB5 hW6
    go_upto_region 10 with fail
    rw [← Z6.out, ← hBX]
    clear hBX
    have c0 := XX.out.c0
    have c1 := XX.out.c1
    have c2 := XX.out.c2
    have c3 := XX.out.c3
    go_wp2_with fail
    refine (apply_any S σ N W6 SS.out X XK.out XA.out hxs).mono ?_
    rintro e w7 ⟨hA, hB⟩
    replace XT := Lib.hid (XT.out.below hB)
    replace XO := Lib.hid (XO.out.below hB)
    replace SS := Lib.hid (SS.out.below hB)
    replace SC := Lib.hid (SC.out.below hB)
    replace XX := Lib.hid (XX.out.below hB)
    replace XA := Lib.hid (XA.out.below hB)
    replace BW := Lib.hid (BW.out.trans (hB.mono BW.out.size))
    clear hB c0 c1 c2 c3
    rcases hA.cases with ⟨hf, -⟩ | ⟨-, Y, rfl, hap, hyat⟩
    · exact absurd (HAP.out.few EN.out) (by omega)
    have HAPY := Lib.hid hap
    have YA := Lib.hid hyat
    clear hA hap hyat
    obtain ⟨W8, hW8⟩ : ∃ W, W = w7.alloc (.cells #[.int .u8 Y.k, .string Y.s, .int .i64 Y.n, .slice Y.p Y.kids.len Y.c] 24) := ⟨_, rfl⟩
    have hB5 : Below w7.heap.size w7 W8 := by rw [hW8]; exact (Below.refl _ _).alloc (Nat.le_refl _) _
    obtain ⟨BY, hBY⟩ : ∃ b, b = w7.heap.size := ⟨_, rfl⟩
    have XY := Lib.hid (by rw [hBY, hW8]; exact BoxIs.new w7 Y 24 : BoxIs BY Y W8)
    have Z8 := Lib.hid hW8
    have hSY : S2 < BY := by rw [hBY]; exact SC.out.lt
    replace YA := Lib.hid (YA.out.at.below hB5)
    replace XT := Lib.hid (XT.out.below hB5)
    replace XO := Lib.hid (XO.out.below hB5)
    replace SS := Lib.hid (SS.out.below hB5)
    replace SC := Lib.hid (SC.out.below hB5)
    replace XX := Lib.hid (XX.out.below hB5)
    replace XA := Lib.hid (XA.out.below hB5)
    replace BW := Lib.hid (BW.out.trans (hB5.mono BW.out.size))
    clear hB5 hW8
    go_upto_region 11 with fail
    rw [← Z8.out, ← hBY]
    clear hBY
    have c0 := XX.out.c0
    have c1 := XX.out.c1
    have c2 := XX.out.c2
    have c3 := XX.out.c3
    go_wp2_with fail
    obtain ⟨W9, hW9⟩ : ∃ W, W = W8.alloc (.cells #[.int .u8 X.k, .string X.s, .int .i64 X.n, .slice X.p X.kids.len X.c] 24) := ⟨_, rfl⟩
    have hB5 : Below W8.heap.size W8 W9 := by rw [hW9]; exact (Below.refl _ _).alloc (Nat.le_refl _) _
    have hLO : ListOf (.cons X.k X.s X.n X.p X.c X.kids .nil) (.slice (some ⟨W8.heap.size, 0, none⟩) 1 1) W9 := by rw [hW9]; exact ListOf.one XA.out _
    rw [← hW9]
    replace XT := Lib.hid (XT.out.below hB5)
    replace XO := Lib.hid (XO.out.below hB5)
    replace SS := Lib.hid (SS.out.below hB5)
    replace SC := Lib.hid (SC.out.below hB5)
    replace XX := Lib.hid (XX.out.below hB5)
    replace XA := Lib.hid (XA.out.below hB5)
    replace XY := Lib.hid (XY.out.below hB5)
    replace YA := Lib.hid (YA.out.below hB5)
    replace BW := Lib.hid (BW.out.trans (hB5.mono BW.out.size))
    clear hB5 hW9 c0 c1 c2 c3
    refine (vars_of (by simp only [Ts.size]; omega) XK.out hLO).mono ?_
    rintro e w10 ⟨u, rfl, hVO, hB⟩
    obtain ⟨p, cp, rfl, hin, hcp⟩ := hVO
    obtain ⟨zs, hzs⟩ : ∃ zs, zs = numsOf ((nodesOf (.cons X.k X.s X.n X.p X.c X.kids .nil)).map Ts.mark) := ⟨_, rfl⟩
    rw [← hzs] at hin hcp ⊢
    have ZE := Lib.hid hzs
    have IN := Lib.hid hin
    replace XT := Lib.hid (XT.out.below hB)
    replace XO := Lib.hid (XO.out.below hB)
    replace SS := Lib.hid (SS.out.below hB)
    replace SC := Lib.hid (SC.out.below hB)
    replace XX := Lib.hid (XX.out.below hB)
    replace XA := Lib.hid (XA.out.below hB)
    replace XY := Lib.hid (XY.out.below hB)
    replace YA := Lib.hid (YA.out.below hB)
    replace BW := Lib.hid (BW.out.trans (hB.mono BW.out.size))
    clear hLO hB hzs hin
    have hzl : zs.length ≤ 9223372036854775807 := by omega
    go_wp2_with fail
    go_loopw [18] (fun s18 wr => ∃ j : Nat, s18 = .int .i64 j ∧ j ≤ zs.length ∧ Hid (Below w10.heap.size w10 wr)) (fun i _ => zs.length - (intOf i).toNat)
    case atStart => exact ⟨0, rfl, Nat.zero_le _, Lib.hid (Below.refl _ _)⟩
    case round =>
      obtain ⟨j, rfl, hjl, BR⟩ := hrel
      by_cases hlt : j < zs.length
      · obtain ⟨b, o, hp, hcell⟩ := IN.out
        have hc9 := hcell j hlt
        replace hp := some_of_ints hp hlt
        subst hp
        obtain ⟨z, hz⟩ : ∃ z, z = zs[j] := ⟨_, rfl⟩
        rw [← hz] at hc9
        have hzm : z ∈ zs := by rw [hz]; exact List.getElem_mem hlt
        have hfree : σ z = none := free_applied (HAP.out.list.fix EN.out) (by rw [← ZE.out]; exact hzm)
        have FR := Lib.hid hfree
        have hocc : occ z (num 0 (vis σ 4097 [t])) = (true, 0) := occ_applied HAP.out.list VI.out (by rw [← ZE.out]; exact hzm)
        have OC := Lib.hid hocc
        have ZR : Hid (-9223372036854775808 ≤ z ∧ z ≤ 9223372036854775807) := Lib.hid (by
          rw [ZE.out, numsOf_mem] at hzm
          obtain ⟨x, hx, _, h2⟩ := hzm
          obtain ⟨y, hy, rfl⟩ := List.mem_map.1 hx
          rw [h2]
          exact nodes_wf _ XK.out y hy)
        have hb10 : b < w10.heap.size := World.block_lt_of_cell? _ _ hc9
        have CZ := Lib.hid hc9
        have c9 := ((stays BR.out).1 _ _ hb10).trans hc9
        have hwV : wk σ ⟨1, ⟨#[]⟩, z, none, 0, .nil⟩ = ⟨1, ⟨#[]⟩, z, none, 0, .nil⟩ := wk_stop (.inr hfree)
        have WV := Lib.hid hwV
        clear hcell hc9 hz hzm hfree hocc hwV
        go_wp2_with fail
        refine (V_any _ _).mono ?_
        rintro e wa ⟨rfl, hB⟩
        unfold tv
        have BR2 := Lib.hid (BR.out.trans (hB.mono BR.out.size))
        clear hB
        go_wp2_with fail
        refine (walk_any S σ N wa (SS.out.below BR2.out) ⟨1, ⟨#[]⟩, z, none, 0, .nil⟩ (nd_ok (by omega) (by simp [ByteArray.size]) ZR.out (by simp [Ts.len]) (fun _ => rfl) trivial) ⟨0, 0, .inl rfl, trivial⟩ (by simp [Ts.size])).mono ?_
        rintro e wb ⟨x7, rfl, hC, hB⟩
        obtain ⟨us7, q7, d7, rfl, -⟩ := hC
        rw [WV.out]
        replace BR2 := Lib.hid (BR2.out.trans (hB.mono BR2.out.size))
        clear hB c9
        unfold tv
        obtain ⟨Q, hQ⟩ : ∃ Q : Nd, Q = ⟨1, ⟨#[]⟩, z, q7, d7, us7⟩ := ⟨_, rfl⟩
        obtain ⟨W11, hW11⟩ : ∃ W, W = wb.alloc (.cells #[.int .u8 Q.k, .string Q.s, .int .i64 Q.n, .slice Q.p Q.kids.len Q.c] 24) := ⟨_, rfl⟩
        have hB5 : Below wb.heap.size wb W11 := by rw [hW11]; exact (Below.refl _ _).alloc (Nat.le_refl _) _
        obtain ⟨BQ, hBQ⟩ : ∃ b, b = wb.heap.size := ⟨_, rfl⟩
        have XQ := Lib.hid (by rw [hBQ, hW11]; exact BoxIs.new wb Q 24 : BoxIs BQ Q W11)
        have Z11 : Hid (W11 = wb.alloc (.cells #[.int .u8 1, .string ⟨#[]⟩, .int .i64 z, .slice q7 us7.len d7] 24)) := Lib.hid (by rw [hW11, hQ])
        have HQ := Lib.hid hQ
        replace BR2 := Lib.hid (BR2.out.trans (hB5.mono BR2.out.size))
        clear hB5 hW11 hQ
        go_upto_region 16 with fail
        rw [← Z11.out, ← hBQ]
        clear hBQ
        have hb11 : b < W11.heap.size := Nat.lt_of_lt_of_le hb10 BR2.out.size
        have CZ2 := Lib.hid (((stays BR2.out).1 _ _ hb10).trans CZ.out)
        refine region_by_facts (fun W_ => Below W11.heap.size W11 W_) [fun u _ => u = .pointer (some ⟨BQ, 0, none⟩), fun u _ => u = .int .u8 1, fun u _ => u = .bool false, fun u _ => u = .bool false, fun u _ => u = .pointer (some ⟨BQ, 2, none⟩), fun u _ => u = .int .i64 z, fun u _ => u = .slice (some ⟨b, o, none⟩) zs.length cp, fun u _ => u = .int .i64 j, fun u _ => u = .pointer (some ⟨b, o + j, none⟩), fun u _ => u = .int .i64 z, fun u _ => u = .bool false, fun u _ => u = .bool false]
          ⟨.eq _, .eq _, .eq _, .eq _, .eq _, .eq _, .eq _, .eq _, .eq _, .eq _, .eq _, .eq _, trivial⟩ (by kernel_rfl) (by kernel_rfl) (by kernel_rfl) ?h0 ?steps ?done
        case h0 => exact (Below.refl _ _).drew
        case steps =>
          refine ⟨?_, ?_, ?_, ?_, ?_, ?_, ?_, ?_, ?_, ?_, ?_, ?_, trivial⟩
          · intro g_ W_ hI hd K hK
            simp only [frameOf, Act.put, List.setIfInBounds_toArray, List.set_cons_zero, List.set_cons_succ]
            go_simp
            refine hK.out (.pointer (some ⟨BQ, 0, none⟩)) _ W_ ?_ hI (Below.refl _ _) rfl
            simp only [frameOf, Act.put, List.setIfInBounds_toArray, List.set_cons_zero, List.set_cons_succ, Nat.zero_add, Nat.reduceAdd]
          · intro g_ W_ hI hd K hK
            simp only [frameOf, Act.put, List.setIfInBounds_toArray, List.set_cons_zero, List.set_cons_succ]
            have h0 : g_ 0 = .pointer (some ⟨BQ, 0, none⟩) := hd 0 (by kernel_rfl)
            rw [h0]
            have e0 := (XQ.out.below hI).c0
            rw [HQ.out] at e0
            simp only at e0
            go_simp
            refine hK.out (.int .u8 1) _ W_ ?_ hI (Below.refl _ _) rfl
            simp only [frameOf, Act.put, List.setIfInBounds_toArray, List.set_cons_zero, List.set_cons_succ, Nat.zero_add, Nat.reduceAdd, h0]
          · intro g_ W_ hI hd K hK
            simp only [frameOf, Act.put, List.setIfInBounds_toArray, List.set_cons_zero, List.set_cons_succ]
            have h1 : g_ 1 = .int .u8 1 := hd 1 (by kernel_rfl)
            rw [h1]
            go_simp
            refine hK.out (.bool false) _ W_ ?_ hI (Below.refl _ _) rfl
            simp only [frameOf, Act.put, List.setIfInBounds_toArray, List.set_cons_zero, List.set_cons_succ, Nat.zero_add, Nat.reduceAdd, h1]
          · intro g_ W_ hI hd K hK
            simp only [frameOf, Act.put, List.setIfInBounds_toArray, List.set_cons_zero, List.set_cons_succ]
            have h2 : g_ 2 = .bool false := hd 2 (by kernel_rfl)
            rw [h2]
            go_simp
            refine hK.out (.bool false) _ W_ ?_ hI (Below.refl _ _) rfl
            simp only [frameOf, Act.put, List.setIfInBounds_toArray, List.set_cons_zero, List.set_cons_succ, Nat.zero_add, Nat.reduceAdd, h2]
          · intro g_ W_ hI hd K hK
            simp only [frameOf, Act.put, List.setIfInBounds_toArray, List.set_cons_zero, List.set_cons_succ]
            have h3 : g_ 3 = .bool false := hd 3 (by kernel_rfl)
            rw [h3]
            go_simp
            refine hK.out (.pointer (some ⟨BQ, 2, none⟩)) _ W_ ?_ hI (Below.refl _ _) rfl
            simp only [frameOf, Act.put, List.setIfInBounds_toArray, List.set_cons_zero, List.set_cons_succ, Nat.zero_add, Nat.reduceAdd, h3]
          · intro g_ W_ hI hd K hK
            simp only [frameOf, Act.put, List.setIfInBounds_toArray, List.set_cons_zero, List.set_cons_succ]
            have h3 : g_ 3 = .bool false := hd 3 (by kernel_rfl)
            have h4 : g_ 4 = .pointer (some ⟨BQ, 2, none⟩) := hd 4 (by kernel_rfl)
            rw [h3, h4]
            have e0 := (XQ.out.below hI).c2
            rw [HQ.out] at e0
            simp only at e0
            go_simp
            refine hK.out (.int .i64 z) _ W_ ?_ hI (Below.refl _ _) rfl
            simp only [frameOf, Act.put, List.setIfInBounds_toArray, List.set_cons_zero, List.set_cons_succ, Nat.zero_add, Nat.reduceAdd, h3, h4]
          · intro g_ W_ hI hd K hK
            simp only [frameOf, Act.put, List.setIfInBounds_toArray, List.set_cons_zero, List.set_cons_succ]
            have h3 : g_ 3 = .bool false := hd 3 (by kernel_rfl)
            rw [h3]
            go_simp
            refine hK.out (.slice (some ⟨b, o, none⟩) zs.length cp) _ W_ ?_ hI (Below.refl _ _) rfl
            simp only [frameOf, Act.put, List.setIfInBounds_toArray, List.set_cons_zero, List.set_cons_succ, Nat.zero_add, Nat.reduceAdd, h3]
          · intro g_ W_ hI hd K hK
            simp only [frameOf, Act.put, List.setIfInBounds_toArray, List.set_cons_zero, List.set_cons_succ]
            have h3 : g_ 3 = .bool false := hd 3 (by kernel_rfl)
            rw [h3]
            go_simp
            refine hK.out (.int .i64 j) _ W_ ?_ hI (Below.refl _ _) rfl
            simp only [frameOf, Act.put, List.setIfInBounds_toArray, List.set_cons_zero, List.set_cons_succ, Nat.zero_add, Nat.reduceAdd, h3]
          · intro g_ W_ hI hd K hK
            simp only [frameOf, Act.put, List.setIfInBounds_toArray, List.set_cons_zero, List.set_cons_succ]
            have h3 : g_ 3 = .bool false := hd 3 (by kernel_rfl)
            have h6 : g_ 6 = .slice (some ⟨b, o, none⟩) zs.length cp := hd 6 (by kernel_rfl)
            have h7 : g_ 7 = .int .i64 j := hd 7 (by kernel_rfl)
            rw [h3, h6, h7]
            go_simp
            refine hK.out (.pointer (some ⟨b, o + j, none⟩)) _ W_ ?_ hI (Below.refl _ _) rfl
            simp only [frameOf, Act.put, List.setIfInBounds_toArray, List.set_cons_zero, List.set_cons_succ, Nat.zero_add, Nat.reduceAdd, h3, h6, h7]
          · intro g_ W_ hI hd K hK
            simp only [frameOf, Act.put, List.setIfInBounds_toArray, List.set_cons_zero, List.set_cons_succ]
            have h3 : g_ 3 = .bool false := hd 3 (by kernel_rfl)
            have h8 : g_ 8 = .pointer (some ⟨b, o + j, none⟩) := hd 8 (by kernel_rfl)
            rw [h3, h8]
            have e0 := ((stays hI).1 _ _ hb11).trans CZ2.out
            go_simp
            refine hK.out (.int .i64 z) _ W_ ?_ hI (Below.refl _ _) rfl
            simp only [frameOf, Act.put, List.setIfInBounds_toArray, List.set_cons_zero, List.set_cons_succ, Nat.zero_add, Nat.reduceAdd, h3, h8]
          · intro g_ W_ hI hd K hK
            simp only [frameOf, Act.put, List.setIfInBounds_toArray, List.set_cons_zero, List.set_cons_succ]
            have h3 : g_ 3 = .bool false := hd 3 (by kernel_rfl)
            have h5 : g_ 5 = .int .i64 z := hd 5 (by kernel_rfl)
            have h9 : g_ 9 = .int .i64 z := hd 9 (by kernel_rfl)
            rw [h3, h5, h9]
            go_simp
            refine hK.out (.bool false) _ W_ ?_ hI (Below.refl _ _) rfl
            simp only [frameOf, Act.put, List.setIfInBounds_toArray, List.set_cons_zero, List.set_cons_succ, Nat.zero_add, Nat.reduceAdd, h3, h5, h9]
          · intro g_ W_ hI hd K hK
            simp only [frameOf, Act.put, List.setIfInBounds_toArray, List.set_cons_zero, List.set_cons_succ]
            have h3 : g_ 3 = .bool false := hd 3 (by kernel_rfl)
            have h10 : g_ 10 = .bool false := hd 10 (by kernel_rfl)
            rw [h3, h10]
            go_simp
            refine hK.out (.bool false) _ W_ ?_ hI (Below.refl _ _) rfl
            simp only [frameOf, Act.put, List.setIfInBounds_toArray, List.set_cons_zero, List.set_cons_succ, Nat.zero_add, Nat.reduceAdd, h3, h10]
        case done =>
          intro f_ W12 hI12 hd
          have h11 : f_ 11 = .bool false := hd 11 (by decide)
          simp only [frameOf, Act.put, List.setIfInBounds_toArray, List.set_cons_zero, List.set_cons_succ, Nat.zero_add, Nat.reduceAdd, h11]
          clear hd h11
          have XT2 := Lib.hid (XT.out.below (BR2.out.trans (hI12.mono BR2.out.size)))
          have SS2 := Lib.hid (SS.out.below (BR2.out.trans (hI12.mono BR2.out.size)))
          have TAT2b := Lib.hid (TAT.out.below (BW.out.trans ((BR2.out.trans (hI12.mono BR2.out.size)).mono BW.out.size)))
          replace CZ2 := Lib.hid (((stays hI12).1 _ _ hb11).trans CZ2.out)
          replace hb11 : b < W12.heap.size := Nat.lt_of_lt_of_le hb11 hI12.size
          go_upto_region 18 with fail
          refine region_by_facts (fun W_ => Below W12.heap.size W12 W_) [fun u _ => u = .pointer (some ⟨S, 0, none⟩), fun u _ => u = .slice (some ⟨b, o, none⟩) zs.length cp, fun u _ => u = .int .i64 j, fun u _ => u = .pointer (some ⟨b, o + j, none⟩), fun u _ => u = .int .i64 z, fun u _ => u = .agg #[.int .u8 t.k, .string t.s, .int .i64 t.n, .slice t.p t.kids.len t.c], fun u _ => u = .tuple #[.bool true, .int .i64 0], fun u _ => u = .tuple #[.bool true, .int .i64 0], fun u _ => u = .bool true, fun u _ => u = .int .i64 0, fun u _ => u = .bool true, fun u _ => u = .int .i64 0]
            ⟨.eq _, .eq _, .eq _, .eq _, .eq _, .eq _, .eq _, .eq _, .eq _, .eq _, .eq _, .eq _, trivial⟩ (by kernel_rfl) (by kernel_rfl) (by kernel_rfl) ?h0 ?steps ?done
          case h0 => exact (Below.refl _ _).drew
          case steps =>
            refine ⟨?_, ?_, ?_, ?_, ?_, ?_, ?_, ?_, ?_, ?_, ?_, ?_, trivial⟩
            · intro g_ W_ hI hd K hK
              simp only [frameOf, Act.put, List.setIfInBounds_toArray, List.set_cons_zero, List.set_cons_succ]
              go_simp
              refine hK.out (.pointer (some ⟨S, 0, none⟩)) _ W_ ?_ hI (Below.refl _ _) rfl
              simp only [frameOf, Act.put, List.setIfInBounds_toArray, List.set_cons_zero, List.set_cons_succ, Nat.zero_add, Nat.reduceAdd]
            · intro g_ W_ hI hd K hK
              simp only [frameOf, Act.put, List.setIfInBounds_toArray, List.set_cons_zero, List.set_cons_succ]
              go_simp
              refine hK.out (.slice (some ⟨b, o, none⟩) zs.length cp) _ W_ ?_ hI (Below.refl _ _) rfl
              simp only [frameOf, Act.put, List.setIfInBounds_toArray, List.set_cons_zero, List.set_cons_succ, Nat.zero_add, Nat.reduceAdd]
            · intro g_ W_ hI hd K hK
              simp only [frameOf, Act.put, List.setIfInBounds_toArray, List.set_cons_zero, List.set_cons_succ]
              go_simp
              refine hK.out (.int .i64 j) _ W_ ?_ hI (Below.refl _ _) rfl
              simp only [frameOf, Act.put, List.setIfInBounds_toArray, List.set_cons_zero, List.set_cons_succ, Nat.zero_add, Nat.reduceAdd]
            · intro g_ W_ hI hd K hK
              simp only [frameOf, Act.put, List.setIfInBounds_toArray, List.set_cons_zero, List.set_cons_succ]
              have h1 : g_ 1 = .slice (some ⟨b, o, none⟩) zs.length cp := hd 1 (by kernel_rfl)
              have h2 : g_ 2 = .int .i64 j := hd 2 (by kernel_rfl)
              rw [h1, h2]
              go_simp
              refine hK.out (.pointer (some ⟨b, o + j, none⟩)) _ W_ ?_ hI (Below.refl _ _) rfl
              simp only [frameOf, Act.put, List.setIfInBounds_toArray, List.set_cons_zero, List.set_cons_succ, Nat.zero_add, Nat.reduceAdd, h1, h2]
            · intro g_ W_ hI hd K hK
              simp only [frameOf, Act.put, List.setIfInBounds_toArray, List.set_cons_zero, List.set_cons_succ]
              have h3 : g_ 3 = .pointer (some ⟨b, o + j, none⟩) := hd 3 (by kernel_rfl)
              rw [h3]
              have e0 := ((stays hI).1 _ _ hb11).trans CZ2.out
              go_simp
              refine hK.out (.int .i64 z) _ W_ ?_ hI (Below.refl _ _) rfl
              simp only [frameOf, Act.put, List.setIfInBounds_toArray, List.set_cons_zero, List.set_cons_succ, Nat.zero_add, Nat.reduceAdd, h3]
            · intro g_ W_ hI hd K hK
              simp only [frameOf, Act.put, List.setIfInBounds_toArray, List.set_cons_zero, List.set_cons_succ]
              have XW := XT2.out.below hI
              have e0 := XW.c0
              have e1 := XW.c1
              have e2 := XW.c2
              have e3 := XW.c3
              go_simp
              refine hK.out (.agg #[.int .u8 t.k, .string t.s, .int .i64 t.n, .slice t.p t.kids.len t.c]) _ W_ ?_ hI (Below.refl _ _) rfl
              simp only [frameOf, Act.put, List.setIfInBounds_toArray, List.set_cons_zero, List.set_cons_succ, Nat.zero_add, Nat.reduceAdd]
            · intro g_ W_ hI hd K hK
              simp only [frameOf, Act.put, List.setIfInBounds_toArray, List.set_cons_zero, List.set_cons_succ]
              have h0 : g_ 0 = .pointer (some ⟨S, 0, none⟩) := hd 0 (by kernel_rfl)
              have h4 : g_ 4 = .int .i64 z := hd 4 (by kernel_rfl)
              have h5 : g_ 5 = .agg #[.int .u8 t.k, .string t.s, .int .i64 t.n, .slice t.p t.kids.len t.c] := hd 5 (by kernel_rfl)
              rw [h0, h4, h5]
              go_simp
              refine (occurs_any S σ N W_ (SS2.out.below hI) z t OK.out (TAT2b.out.below hI) hts).mono ?_
              rintro e w' ⟨rfl, hB⟩
              rw [OC.out]
              refine hK.out (.tuple #[.bool true, .int .i64 0]) _ w' ?_ (hI.trans (hB.mono hI.size)) hB rfl
              simp only [frameOf, Act.put, List.setIfInBounds_toArray, List.set_cons_zero, List.set_cons_succ, Nat.zero_add, Nat.reduceAdd, h0, h4, h5]
            · intro g_ W_ hI hd K hK
              simp only [frameOf, Act.put, List.setIfInBounds_toArray, List.set_cons_zero, List.set_cons_succ]
              have h6 : g_ 6 = .tuple #[.bool true, .int .i64 0] := hd 6 (by kernel_rfl)
              rw [h6]
              go_simp
              refine hK.out (.tuple #[.bool true, .int .i64 0]) _ W_ ?_ hI (Below.refl _ _) rfl
              simp only [frameOf, Act.put, List.setIfInBounds_toArray, List.set_cons_zero, List.set_cons_succ, Nat.zero_add, Nat.reduceAdd, h6]
            · intro g_ W_ hI hd K hK
              simp only [frameOf, Act.put, List.setIfInBounds_toArray, List.set_cons_zero, List.set_cons_succ]
              have h7 : g_ 7 = .tuple #[.bool true, .int .i64 0] := hd 7 (by kernel_rfl)
              rw [h7]
              go_simp
              refine hK.out (.bool true) _ W_ ?_ hI (Below.refl _ _) rfl
              simp only [frameOf, Act.put, List.setIfInBounds_toArray, List.set_cons_zero, List.set_cons_succ, Nat.zero_add, Nat.reduceAdd, h7]
            · intro g_ W_ hI hd K hK
              simp only [frameOf, Act.put, List.setIfInBounds_toArray, List.set_cons_zero, List.set_cons_succ]
              have h7 : g_ 7 = .tuple #[.bool true, .int .i64 0] := hd 7 (by kernel_rfl)
              rw [h7]
              go_simp
              refine hK.out (.int .i64 0) _ W_ ?_ hI (Below.refl _ _) rfl
              simp only [frameOf, Act.put, List.setIfInBounds_toArray, List.set_cons_zero, List.set_cons_succ, Nat.zero_add, Nat.reduceAdd, h7]
            · intro g_ W_ hI hd K hK
              simp only [frameOf, Act.put, List.setIfInBounds_toArray, List.set_cons_zero, List.set_cons_succ]
              have h8 : g_ 8 = .bool true := hd 8 (by kernel_rfl)
              rw [h8]
              go_simp
              refine hK.out (.bool true) _ W_ ?_ hI (Below.refl _ _) rfl
              simp only [frameOf, Act.put, List.setIfInBounds_toArray, List.set_cons_zero, List.set_cons_succ, Nat.zero_add, Nat.reduceAdd, h8]
            · intro g_ W_ hI hd K hK
              simp only [frameOf, Act.put, List.setIfInBounds_toArray, List.set_cons_zero, List.set_cons_succ]
              have h9 : g_ 9 = .int .i64 0 := hd 9 (by kernel_rfl)
              rw [h9]
              go_simp
              refine hK.out (.int .i64 0) _ W_ ?_ hI (Below.refl _ _) rfl
              simp only [frameOf, Act.put, List.setIfInBounds_toArray, List.set_cons_zero, List.set_cons_succ, Nat.zero_add, Nat.reduceAdd, h9]
          case done =>
            intro f_ W_ hI hd
            have h10 : f_ 10 = .bool true := hd 10 (by decide)
            have h11 : f_ 11 = .int .i64 0 := hd 11 (by decide)
            simp only [frameOf, Act.put, List.setIfInBounds_toArray, List.set_cons_zero, List.set_cons_succ, Nat.zero_add, Nat.reduceAdd, h10, h11]
            clear hd h10 h11
            go_wp2
            go_roundw
            case rel =>
              exact ⟨j + 1, by go_num, by omega, Lib.hid (BR2.out.trans ((hI12.trans (hI.mono hI12.size)).mono BR2.out.size))⟩
            case measure => simp [intOf]; omega
      · have hje : j = zs.length := by omega
        subst hje
        replace IN := Lib.hid (IN.out.below BR.out)
        replace XT := Lib.hid (XT.out.below BR.out)
        replace XO := Lib.hid (XO.out.below BR.out)
        replace SS := Lib.hid (SS.out.below BR.out)
        replace SC := Lib.hid (SC.out.below BR.out)
        replace XX := Lib.hid (XX.out.below BR.out)
        replace XA := Lib.hid (XA.out.below BR.out)
        replace XY := Lib.hid (XY.out.below BR.out)
        replace YA := Lib.hid (YA.out.below BR.out)
        replace BW := Lib.hid (BW.out.trans (BR.out.mono BW.out.size))
        clear BR
        go_wp2_with fail
        refine (len_any S σ N wr SS.out).mono ?_
        rintro e w11 ⟨rfl, hw11⟩
        have hw11 := hw11.symm
        subst hw11
        have d0 := XO.out.c0
        have d1 := XO.out.c1
        have d2 := XO.out.c2
        have d3 := XO.out.c3
        go_wp2_with fail
        refine (bind_any S2 σ N _ SC.out hn40 v HV.out tb OK2.out (TAT2.out.below BW.out) hts2).mono ?_
        intro e w12 hBd
        obtain rfl := hBd.out
        obtain ⟨E, hE⟩ : ∃ E, E = bindE σ v tb := ⟨_, rfl⟩
        rw [← hE]
        clear d0 d1 d2 d3
        have hout : ∃ (σ2 : Sb) (N2 : Nat) (x : Bool), SubAt S2 σ2 N2 w12 ∧ (E == 0) = x ∧ (((N2 : Nat) : Int) == (N : Int) + 1) = x ∧ N2 ≤ 1000000 := by
          by_cases hE0 : E = 0
          · obtain ⟨y, _, h9, _⟩ := hBd.yes (by rw [← hE]; exact hE0)
            exact ⟨_, _, true, h9, by simp [hE0], by simp, by omega⟩
          · exact ⟨_, _, false, SC.out.below (hBd.no (by rw [← hE]; exact hE0)), by simp [hE0], by simp only [beq_eq_false_iff_ne]; omega, by omega⟩
        obtain ⟨σ2, N2, xb, hSC, hx1, hx2, hN2⟩ := hout
        replace SS := Lib.hid (SS.out.apart SC.out (by omega) hBd.grown)
        replace XX := Lib.hid (XX.out.keeps hBd.grown (by omega))
        replace XY := Lib.hid (XY.out.keeps hBd.grown (by omega))
        replace XT := Lib.hid (XT.out.keeps hBd.grown (by omega))
        replace XA := Lib.hid (SC.out.keeps hBd.grown XA.out)
        replace YA := Lib.hid (SC.out.keeps hBd.grown YA.out)
        replace BW := Lib.hid (BW.out.grown hBd.grown BW.out.size (fun q hq => by cases hq; omega))
        replace SC := Lib.hid hSC
        have EB := Lib.hid (eqb_of hx1 hx2)
        clear hBd hE hSC hx1 hx2
        have c0 := XT.out.c0
        have c1 := XT.out.c1
        have c2 := XT.out.c2
        have c3 := XT.out.c3
        go_wp2_with fail
        refine (apply_any S σ N w12 SS.out t OK.out (TAT.out.below BW.out) hts).mono ?_
        rintro e w13 ⟨hA, hB⟩
        replace SS := Lib.hid (SS.out.below hB)
        replace SC := Lib.hid (SC.out.below hB)
        replace XX := Lib.hid (XX.out.below hB)
        replace XA := Lib.hid (XA.out.below hB)
        replace XY := Lib.hid (XY.out.below hB)
        replace YA := Lib.hid (YA.out.below hB)
        replace BW := Lib.hid (BW.out.trans (hB.mono BW.out.size))
        clear hB c0 c1 c2 c3
        rcases hA.cases with ⟨hf, -⟩ | ⟨-, V, rfl, hap, hvat⟩
        · exact absurd VI.out (by omega)
        have HAPV := Lib.hid hap
        have VA := Lib.hid hvat
        clear hA hap hvat
        obtain ⟨W14, hW14⟩ : ∃ W, W = w13.alloc (.cells #[.int .u8 V.k, .string V.s, .int .i64 V.n, .slice V.p V.kids.len V.c] 24) := ⟨_, rfl⟩
        have hB5 : Below w13.heap.size w13 W14 := by rw [hW14]; exact (Below.refl _ _).alloc (Nat.le_refl _) _
        obtain ⟨BV, hBV⟩ : ∃ b, b = w13.heap.size := ⟨_, rfl⟩
        have XV := Lib.hid (by rw [hBV, hW14]; exact BoxIs.new w13 V 24 : BoxIs BV V W14)
        have Z14 := Lib.hid hW14
        replace VA := Lib.hid (VA.out.at.below hB5)
        replace SS := Lib.hid (SS.out.below hB5)
        replace SC := Lib.hid (SC.out.below hB5)
        replace XX := Lib.hid (XX.out.below hB5)
        replace XA := Lib.hid (XA.out.below hB5)
        replace XY := Lib.hid (XY.out.below hB5)
        replace YA := Lib.hid (YA.out.below hB5)
        replace BW := Lib.hid (BW.out.trans (hB5.mono BW.out.size))
        clear hB5 hW14
        go_upto_region 24 with fail
        rw [← Z14.out, ← hBV]
        clear hBV
        have hxl : X.kids.len ≤ 1000000 := by have := Ts.len_size X.kids; omega
        have c0 := XX.out.c0
        have c1 := XX.out.c1
        have c2 := XX.out.c2
        have c3 := XX.out.c3
        have d0 := XY.out.c0
        have d1 := XY.out.c1
        have d2 := XY.out.c2
        have d3 := XY.out.c3
        go_wp2_with fail
        refine (same_twins (HAP.out.again EN.out HAPY.out) HAP.out.ok HAPY.out.ok hxl W14 XA.out YA.out).mono ?_
        rintro e w15 ⟨rfl, hB⟩
        replace SS := Lib.hid (SS.out.below hB)
        replace SC := Lib.hid (SC.out.below hB)
        replace XX := Lib.hid (XX.out.below hB)
        replace XA := Lib.hid (XA.out.below hB)
        replace XV := Lib.hid (XV.out.below hB)
        replace VA := Lib.hid (VA.out.below hB)
        replace BW := Lib.hid (BW.out.trans (hB.mono BW.out.size))
        clear hB c0 c1 c2 c3 d0 d1 d2 d3
        have c0 := XX.out.c0
        have c1 := XX.out.c1
        have c2 := XX.out.c2
        have c3 := XX.out.c3
        have d0 := XV.out.c0
        have d1 := XV.out.c1
        have d2 := XV.out.c2
        have d3 := XV.out.c3
        go_wp2_with fail
        refine (same_twins (HAP.out.same HAPV.out) HAP.out.ok HAPV.out.ok hxl w15 XA.out VA.out).mono ?_
        rintro e w16 ⟨rfl, hB⟩
        replace SS := Lib.hid (SS.out.below hB)
        replace SC := Lib.hid (SC.out.below hB)
        replace BW := Lib.hid (BW.out.trans (hB.mono BW.out.size))
        clear hB c0 c1 c2 c3 d0 d1 d2 d3
        go_wp2_with fail
        refine (len_any S σ N w16 SS.out).mono ?_
        rintro e w17 ⟨rfl, hw17⟩
        have hw17 := hw17.symm
        subst hw17
        have eb := EB.out
        have nn : ((N : Int) == (N : Int)) = true := by simp
        go_wp2_with fail
        refine (len_any S2 σ2 N2 _ SC.out).mono ?_
        rintro e w18 ⟨rfl, hw18⟩
        have hw18 := hw18.symm
        subst hw18
        go_wp2_with fail
        refine (wakes3_any _).mono ?_
        rintro e we ⟨rfl, hB⟩
        replace BW := Lib.hid (BW.out.trans (hB.mono BW.out.size))
        clear hB
        go_wp2
        go_ret
        exact ⟨rfl, BW.out⟩


end Go.Proofs.Ytflomdnjabgnaaa
