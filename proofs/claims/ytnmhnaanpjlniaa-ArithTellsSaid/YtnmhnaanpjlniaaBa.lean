import Derived.Test.YtnmhnaanpjlniaaAz
/-
  Layer 3: bindings made one behind the other, walked.
-/
namespace Go.Proofs.Ytnmhnaanpjlniaa
open Go.RowKit

def zeroB : Value := .agg #[.int .i64 0, .int .u8 0, .string ByteArray.empty, .int .i64 0, .slice none 0 0]
theorem infoB : (Try.prog.info? 62).map (fun i => (i.zero, i.size, i.bytes)) = some (some zeroB, 5, 64) := by kernel_rfl

/-- what is made of bindings -/
def Made (w : World) (l : List (Int × Nd)) (e : Ending) (w' : World) : Prop :=
  ∃ had σ q c, e = .returned (.tuple #[.pointer (some ⟨w.heap.size, 0, none⟩), .slice q had.length c, .bool true]) ∧ BsAt w' q had ∧ had.length ≤ l.length ∧ SubAt w.heap.size σ had.length w' ∧ STw σ (look had) ∧ (∀ e ∈ had, e.2.ok ∧ e.2.kids.size ≤ 5000) ∧ Below w.heap.size w w'

theorem valOf_agg (o : Option Nd) : ∃ (k : Int) (s : ByteArray) (n : Int) (p : Option Addr) (L c : Nat), valOf o = .agg #[.int .u8 k, .string s, .int .i64 n, .slice p L c] := by
  cases o with
  | none => exact ⟨0, ⟨#[]⟩, 0, none, 0, 0, rfl⟩
  | some x => exact ⟨x.k, x.s, x.n, x.p, x.kids.len, x.c, rfl⟩

theorem bindE_zero {ρ : Sb} {v : Int} {t : Nd} (h : bindE ρ v t = 0) : ρ v = none := by
  unfold bindE at h
  by_cases h1 : v < 0
  · rw [if_pos h1] at h; omega
  · rw [if_neg h1] at h
    by_cases h2 : (ρ v).isSome = true
    · rw [if_pos h2] at h; omega
    · simpa using h2

set_option maxRecDepth 100000 in
set_option maxHeartbeats 16000000 in
theorem make_any (l : List (Int × Nd)) (hl : l.length ≤ 40) (hok : (bsTs l).ok) (hsz : (bsTs l).size ≤ 5000) (hvr : ∀ e ∈ l, -9223372036854775808 ≤ e.1 ∧ e.1 ≤ 9223372036854775807) (w : World) (lp : Option Addr) (lc : Nat) (hat : BsAt w lp l) :
    Calls Try.prog 12 #[.slice lp l.length lc] w (Made w l) := by
  obtain ⟨b, o, hp, hlies⟩ := hat
  have HP := Lib.hid hp
  have LI := Lib.hid hlies
  have OK := Lib.hid hok
  have VR := Lib.hid hvr
  obtain ⟨i0, hi, hz0, hz1, hz2⟩ := info_parts infoB
  clear hp hlies hok hvr
  go_enter Try.func12, Try.ntmps12
  go_wp2_with fail
  refine (new_any w).mono ?_
  rintro e W0 ⟨rfl, hS0, hB0⟩
  have M0 : Hid (MkIn w 0 (.slice none 0 0) [] Sb.none W0) := Lib.hid ⟨Nat.le_refl _, World.ownsRow_nil _ _ _ _, trivial, hS0, STw.none, (fun e he => by cases he), (fun v x hx => by cases hx), hB0⟩
  clear hS0 hB0
  go_wp2_with fail
  go_loopw [6, 7] (fun s6 s7 wr => ∃ (j : Nat) (had : List (Int × Nd)) (σ : Sb), j ≤ l.length ∧ s7 = .int .i64 j ∧ Hid (MkIn w j s6 had σ wr)) (fun _ i _ => l.length - (intOf i).toNat)
  case atStart => exact ⟨0, [], Sb.none, by omega, rfl, M0⟩
  case round =>
    rename_i s6
    obtain ⟨j, had, σ, hj, rfl, MK⟩ := hrel
    obtain ⟨q, c, hs6, hba⟩ := row_read MK.out.own MK.out.kids MK.out.B
    subst hs6
    have hhl := MK.out.hl
    by_cases hlt : j < l.length
    · have hpp : lp = some ⟨b, o, none⟩ := by
        rcases HP.out with h | h
        · rw [h] at hlt; simp at hlt
        · exact h
      subst hpp
      obtain ⟨⟨v, x⟩, hux⟩ : ∃ ux, l[j]? = some ux := ⟨_, List.getElem?_eq_getElem hlt⟩
      have EL := (LI.out.stay (stays MK.out.B).1).get hux
      have c0 := EL.c0
      have c1 := EL.c1
      have c2 := EL.c2
      have c3 := EL.c3
      have c4 := EL.c4
      have hatx := EL.at_
      have hatw := (LI.out.get hux).at_
      have hxo := bsTs_get OK.out hux
      have hv := VR.out _ (List.mem_of_getElem? hux)
      simp only at hv
      have XO := Lib.hid hxo.1
      have hxs : x.kids.size ≤ 5000 := by have := hxo.2; omega
      have XA := Lib.hid hatx
      have XW := Lib.hid hatw
      clear EL hux hba hxo hatx hatw
      go_wp2_with fail
      obtain ⟨W1, hW1, hs1, hB1, hc1, hf1⟩ := alloc_new wr #[.int .i64 v, .int .u8 x.k, .string x.s, .int .i64 x.n, .slice x.p x.kids.len x.c] 62
      rw [← hW1]
      have Z1 := Lib.hid hW1
      have M1 := Lib.hid (MK.out.same hB1)
      have hhm : had.length < 1000000 := by omega
      refine (bind_any w.heap.size σ had.length W1 M1.out.sub hhm v hv x XO.out (XA.out.below hB1) hxs).mono ?_
      rintro e w3 hBd
      have hout := hBd.out
      obtain ⟨E, hE⟩ : ∃ E, E = bindE σ v x := ⟨_, rfl⟩
      rw [← hE] at hout
      subst hout
      have EE := Lib.hid hE
      have ET : Hid (E = bindE (look had) v x) := Lib.hid (by rw [hE]; exact bindE_tw M1.out.tw M1.out.sub.ends v x)
      have BD := Lib.hid hBd
      have hS := M1.out.sub.lt
      have hBs := MK.out.B.size
      have hSr := MK.out.sub.lt
      have hN1 : w3.heap[wr.heap.size]? = W1.heap[wr.heap.size]? := hBd.grown.block _ (by omega) (by simp; omega)
      have n0 : w3.cell? ⟨wr.heap.size, 0, none⟩ = some (.int .i64 v) := (World.cell?_of_block (a := ⟨wr.heap.size, 0, none⟩) hN1).trans (hc1 0 _ rfl)
      have n1 : w3.cell? ⟨wr.heap.size, 1, none⟩ = some (.int .u8 x.k) := (World.cell?_of_block (a := ⟨wr.heap.size, 1, none⟩) hN1).trans (hc1 1 _ rfl)
      have n2 : w3.cell? ⟨wr.heap.size, 2, none⟩ = some (.string x.s) := (World.cell?_of_block (a := ⟨wr.heap.size, 2, none⟩) hN1).trans (hc1 2 _ rfl)
      have n3 : w3.cell? ⟨wr.heap.size, 3, none⟩ = some (.int .i64 x.n) := (World.cell?_of_block (a := ⟨wr.heap.size, 3, none⟩) hN1).trans (hc1 3 _ rfl)
      have n4 : w3.cell? ⟨wr.heap.size, 4, none⟩ = some (.slice x.p x.kids.len x.c) := (World.cell?_of_block (a := ⟨wr.heap.size, 4, none⟩) hN1).trans (hc1 4 _ rfl)
      have hk3 := M1.out.kept hBd.grown
      have K3 := Lib.hid hk3
      obtain ⟨q3, c3', hq3, hba3⟩ := row_read hk3.1 MK.out.kids hk3.2
      injection hq3 with hq3a _ hq3b
      subst hq3a
      subst hq3b
      have BA3 := Lib.hid hba3
      clear hE hBd hW1 hc1 hf1 hN1 hk3 hba3 c0 c1 c2 c3 c4
      go_wp2_with fail
      refine (of_any had (by omega) w3 q c BA3.out v).mono ?_
      rintro e w4 ⟨rfl, hB4⟩
      obtain ⟨bd, hbd⟩ : ∃ bd, bd = (look had v).isSome := ⟨_, rfl⟩
      rw [← hbd]
      have BDD := Lib.hid hbd
      obtain ⟨vk, vs, vn, vp, vL, vc, hval⟩ := valOf_agg (look had v)
      rw [hval]
      clear hval hbd
      obtain ⟨W5, hW5, hs5, hB5, hc5, hf5⟩ := alloc_new w4 #[.int .u8 vk, .string vs, .int .i64 vn, .slice vp vL vc] 25
      have B35 : Below w3.heap.size w3 W5 := hB4.trans (hB5.mono hB4.size)
      have k0 := (stays B35).1 wr.heap.size 0 (World.block_lt_of_cell? _ _ n0) |>.trans n0
      have k1 := (stays B35).1 wr.heap.size 1 (World.block_lt_of_cell? _ _ n1) |>.trans n1
      have k2 := (stays B35).1 wr.heap.size 2 (World.block_lt_of_cell? _ _ n2) |>.trans n2
      have k3 := (stays B35).1 wr.heap.size 3 (World.block_lt_of_cell? _ _ n3) |>.trans n3
      have k4 := (stays B35).1 wr.heap.size 4 (World.block_lt_of_cell? _ _ n4) |>.trans n4
      have Z5 := Lib.hid hW5
      have BB5 := Lib.hid B35
      clear hW5 hc5 hf5 B35 hB4 hB5 n0 n1 n2 n3 n4
      go_upto_region 10 with fail
      rw [← Z5.out]
      obtain ⟨hit, hhit⟩ : ∃ hit : Bool, hit = (decide (v < 0) || bd) := ⟨_, rfl⟩
      have HH := Lib.hid hhit
      clear hhit
      go_cut [44] from 16 to 72 (fun s44 wx => s44 = .bool hit ∧ wx = W5)
      case first =>
        by_cases hv0 : v < 0
        · have R : Hid (hit = true) := Lib.hid (by rw [HH.out]; simp [hv0])
          go_wp2
          go_meet
          exact ⟨by rw [R.out], rfl⟩
        · have R : Hid (hit = bd) := Lib.hid (by rw [HH.out]; simp [hv0])
          go_wp2
          go_meet
          exact ⟨by rw [R.out], rfl⟩
      case rest =>
        obtain ⟨rfl, hw⟩ := hcut
        have hw' := hw.symm
        clear hw
        subst hw'
        go_upto_if 44 with fail
        go_cut [12, 13, 14] from 16 to 72 (fun s12 s13 s14 wx => s12 = .int .i64 E ∧ Hid (Below W5.heap.size W5 wx))
        case first =>
          cases hit with
          | true =>
            have R : Hid (E = 1) := Lib.hid (by
              rw [ET.out]
              unfold bindE
              by_cases hv0 : v < 0
              · rw [if_pos hv0]
              · have h := HH.out
                rw [BDD.out] at h
                rw [if_neg hv0, if_pos (by simpa [hv0] using h.symm)])
            go_wp2
            go_meet
            exact ⟨by rw [R.out], Lib.hid (Below.refl _ _)⟩
          | false =>
            obtain ⟨ob, oe, hocc⟩ : ∃ ob oe, occ v (num 0 (vis (look had) 4097 [x])) = (ob, oe) := ⟨_, _, rfl⟩
            have RE : Hid (E = if oe ≠ 0 then oe else if ob = true then 1 else 0) := Lib.hid (by
              have h := HH.out
              rw [BDD.out] at h
              have hv0 : ¬ v < 0 := fun e => by rw [decide_eq_true e] at h; cases h
              have hb0 : ¬ (look had v).isSome = true := fun e => by rw [e] at h; simp at h
              rw [ET.out]
              unfold bindE
              rw [if_neg hv0, if_neg hb0, hocc])
            have OCC := Lib.hid hocc
            clear hocc
            go_wp2_with fail
            refine (roccurs_any had (by omega) M1.out.ends (small_of M1.out.sm) W5 q c (BA3.out.below BB5.out) x XO.out hxs (XW.out.below (K3.out.2.trans (BB5.out.mono K3.out.2.size))) v).mono ?_
            rintro e w6 ⟨rfl, hB6⟩
            rw [OCC.out]
            have B6 := Lib.hid hB6
            clear hB6
            by_cases hoe : (oe != 0) = true
            · have R : Hid (E = oe) := Lib.hid (by rw [RE.out, if_pos (by simpa using hoe)])
              go_wp2
              go_meet
              exact ⟨by rw [R.out], B6⟩
            · have hoe0 : oe = 0 := by simpa using hoe
              subst hoe0
              clear hoe
              cases ob with
              | true =>
                have R : Hid (E = 1) := Lib.hid (by rw [RE.out, if_neg (by simp), if_pos rfl])
                go_wp2
                go_meet
                exact ⟨by rw [R.out], B6⟩
              | false =>
                have R : Hid (E = 0) := Lib.hid (by rw [RE.out, if_neg (by simp), if_neg (by simp)])
                go_wp2
                go_meet
                exact ⟨by rw [R.out], B6⟩
        case rest =>
          obtain ⟨rfl, B7⟩ := hcut
          have m0 := (stays B7.out).1 wr.heap.size 0 (World.block_lt_of_cell? _ _ k0) |>.trans k0
          have m1 := (stays B7.out).1 wr.heap.size 1 (World.block_lt_of_cell? _ _ k1) |>.trans k1
          have m2 := (stays B7.out).1 wr.heap.size 2 (World.block_lt_of_cell? _ _ k2) |>.trans k2
          have m3 := (stays B7.out).1 wr.heap.size 3 (World.block_lt_of_cell? _ _ k3) |>.trans k3
          have m4 := (stays B7.out).1 wr.heap.size 4 (World.block_lt_of_cell? _ _ k4) |>.trans k4
          clear k0 k1 k2 k3 k4
          by_cases hE0 : (E == 0) = true
          · have hE1 : E = 0 := by simpa using hE0
            obtain ⟨σ', hmid⟩ := M1.out.bound BD.out (by rw [← EE.out]; exact hE1) (bindE_zero (by rw [← ET.out]; exact hE1))
            have MID := Lib.hid ((hmid.same BB5.out).same B7.out)
            have MIDA := Lib.hid (MID.out.same ((Below.refl _ _).alloc (Nat.le_refl _) (.cells #[.int .i64 v, .int .u8 x.k, .string x.s, .int .i64 x.n, .slice x.p x.kids.len x.c] 62)))
            have hnews : ∀ i u, (cellsB [(v, x)])[i]? = some u → (wc.alloc (.cells #[.int .i64 v, .int .u8 x.k, .string x.s, .int .i64 x.n, .slice x.p x.kids.len x.c] 62)).cell? ((⟨wc.heap.size, 0, none⟩ : Addr).add i) = some u := by
              obtain ⟨W6, hW6, hs6, hB6, hc6, -⟩ := alloc_new wc #[.int .i64 v, .int .u8 x.k, .string x.s, .int .i64 x.n, .slice x.p x.kids.len x.c] 62
              intro i u hiu
              rw [Go.WideShapes.add_plain, Nat.zero_add, ← hW6]
              exact hc6 i u (by simpa [cellsB] using hiu)
            have N0 := Lib.hid hnews
            have hBs7 : w.heap.size ≤ wc.heap.size := MID.out.B.size
            clear hE1 hmid hnews
            go_wp2_with (at_builtin; refine wpList_append_own_at _ rfl _ _ 22 rfl w.heap.size 62 i0 zeroB 5 64 Try.underlying22 hi hz0 hz1 hz2 rfl (by decide) _ _ _ rfl MIDA.out.own ⟨wc.heap.size, 0, none⟩ 1 1 (cellsB [(v, x)]) rfl rfl N0.out (cellsB_one _) (by unfold maxLen; omega) (by omega) (by simp; omega) ?_; intro v5 W7 hown2 hgrow2 hnil hob; have X := Lib.hid (And.intro hown2 (And.intro hgrow2 hob)); clear hown2 hgrow2 hnil hob)
            have MN := Lib.hid (MIDA.out.push hhl MK.out.kids XW.out MK.out.sm ⟨XO.out, hxs⟩ X.out.1 X.out.2.1 X.out.2.2)
            go_roundw
            case rel => exact ⟨j + 1, had ++ [(v, x)], σ', by omega, by go_num, MN⟩
            case measure => simp [intOf]; omega
          · rw [Bool.not_eq_true] at hE0
            have MN := Lib.hid (((M1.out.same (BD.out.no (by rw [← EE.out]; simpa using hE0))).same BB5.out).same B7.out).up
            go_wp2
            go_roundw
            case rel => exact ⟨j + 1, had, σ, by omega, by go_num, MN⟩
            case measure => simp [intOf]; omega
    · go_wp2_with fail
      refine (len_any w.heap.size σ had.length wr MK.out.sub).mono ?_
      rintro e w9 ⟨rfl, hw9⟩
      have hw' := hw9
      subst hw'
      have BAF := Lib.hid hba
      clear hba
      go_wp2
      exact bodyPost_ret (v := .tuple #[.pointer (some ⟨w.heap.size, 0, none⟩), .slice q had.length c, .bool true]) (by simp [results, Try.results12, go_sem]) rfl ⟨had, σ, q, c, rfl, BAF.out, by omega, MK.out.sub, MK.out.tw, MK.out.sm, MK.out.B⟩

end Go.Proofs.Ytnmhnaanpjlniaa
