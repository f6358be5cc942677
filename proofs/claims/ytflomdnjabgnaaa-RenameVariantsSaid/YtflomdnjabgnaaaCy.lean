import Derived.Test.YtflomdnjabgnaaaBk
import Derived.Test.YtflomdnjabgnaaaDd
import Derived.Test.YtflomdnjabgnaaaDh
/-
  Layer 4: what Make makes is made of its bindings, one behind the other. (Written by gen_de.py out of Ba.)
-/
namespace Go.Proofs.Ytflomdnjabgnaaa
open Go.RowKit

/-- bound one behind the other -/
inductive Chain (l : List (Int × Nd)) : List (Int × Nd) → Prop
  | nil : Chain l []
  | snoc {had : List (Int × Nd)} {v : Int} {x : Nd} (h : Chain l had) (hm : (v, x) ∈ l) (h0 : bindE (look had) v x = 0) : Chain l (had ++ [(v, x)])

theorem look_put {had : List (Int × Nd)} {v : Int} {x : Nd} (hv : look had v = none) : look (had ++ [(v, x)]) = (look had).put v x := by
  funext u
  rw [look_snoc]
  by_cases e : u = v
  · subst e
    rw [hv, Sb.put_same]
    simp
  · rw [Sb.put_other e, if_neg (by simpa using fun h => e h.symm)]
    cases look had u <;> rfl

theorem Chain.mg {l : List (Int × Nd)} (hl : ∀ e ∈ l, goodN e.2) {had : List (Int × Nd)} (h : Chain l had) : (∃ θ, Mg θ (look had)) ∧ goodS (look had) ∧ Ends (look had) := by
  induction h with
  | nil => exact ⟨⟨Tm.var, (fun v x hx => by cases hx), fun v _ => rfl⟩, (fun v x hx => by cases hx), Ends.none⟩
  | @snoc had v x _ hm h0 ih =>
    obtain ⟨⟨θ, hmg⟩, hg, hE⟩ := ih
    have hv := bindE_zero h0
    have hp : posA v 0 (vis (look had) 4097 [x]) < 0 ∧ (vis (look had) 4097 [x]).length ≤ 4096 := by
      have hle := vis_length (look had) 4097 [x]
      unfold bindE at h0
      have hn : ¬ v < 0 := fun e => by rw [if_pos e] at h0; omega
      rw [if_neg hn, if_neg (by rw [hv]; simp), occ_pos v _ 0 (by omega) (by omega)] at h0
      have hp := posA_le v (vis (look had) 4097 [x]) 0
      by_cases c1 : 0 ≤ posA v 0 (vis (look had) 4097 [x]) ∧ posA v 0 (vis (look had) 4097 [x]) ≤ 4096
      · rw [if_pos c1] at h0; simp at h0
      · rw [if_neg c1] at h0
        by_cases c2 : 4096 < 0 + (vis (look had) 4097 [x]).length
        · rw [if_pos c2] at h0; simp at h0
        · exact ⟨by omega, by omega⟩
    rw [look_put hv]
    have hnh := vis_has hmg hE 4097 (l := [x]) (by omega) (posA_no hp.1) x (List.mem_singleton.2 rfl)
    refine ⟨⟨_, hmg.put hv hnh⟩, goodS_put hg (hl _ hm), ?_⟩
    refine hE.put hv fun hc => ?_
    have h1 := hp.1
    simp only [vis, posA] at h1
    rw [if_pos (by rw [hc.1, hc.2]; simp)] at h1
    omega

set_option maxRecDepth 100000 in
set_option maxHeartbeats 16000000 in
theorem make_chain (l : List (Int × Nd)) (hl : l.length ≤ 40) (hok : (bsTs l).ok) (hsz : (bsTs l).size ≤ 5000) (hvr : ∀ e ∈ l, -9223372036854775808 ≤ e.1 ∧ e.1 ≤ 9223372036854775807) (w : World) (lp : Option Addr) (lc : Nat) (hat : BsAt w lp l) :
    Calls Try.prog 25 #[.slice lp l.length lc] w (fun e w' => ∃ had σ q c, e = .returned (.tuple #[.pointer (some ⟨w.heap.size, 0, none⟩), .slice q had.length c, .bool true]) ∧ had.length ≤ l.length ∧ SubAt w.heap.size σ had.length w' ∧ STw σ (look had) ∧ Chain l had ∧ Below w.heap.size w w') := by
  obtain ⟨b, o, hp, hlies⟩ := hat
  have HP := Lib.hid hp
  have LI := Lib.hid hlies
  have OK := Lib.hid hok
  have VR := Lib.hid hvr
  obtain ⟨i0, hi, hz0, hz1, hz2⟩ := info_parts infoB
  clear hp hlies hok hvr
  go_enter Try.func25, Try.ntmps25
  go_wp2_with fail
  refine (new_any w).mono ?_
  rintro e W0 ⟨rfl, hS0, hB0⟩
  have M0 : Hid (MkIn w 0 (.slice none 0 0) [] Sb.none W0) := Lib.hid ⟨Nat.le_refl _, World.ownsRow_nil _ _ _ _, trivial, hS0, STw.none, (fun e he => by cases he), (fun v x hx => by cases hx), hB0⟩
  clear hS0 hB0
  go_wp2_with fail
  go_loopw [6, 7] (fun s6 s7 wr => ∃ (j : Nat) (had : List (Int × Nd)) (σ : Sb), j ≤ l.length ∧ s7 = .int .i64 j ∧ Hid (MkIn w j s6 had σ wr) ∧ Hid (Chain l had)) (fun _ i _ => l.length - (intOf i).toNat)
  case atStart => exact ⟨0, [], Sb.none, by omega, rfl, M0, Lib.hid .nil⟩
  case round =>
    rename_i s6
    obtain ⟨j, had, σ, hj, rfl, MK, CH⟩ := hrel
    obtain ⟨q, c, hs6, hba⟩ := row_read MK.out.own MK.out.kids MK.out.B
    subst hs6
    have hhl := MK.out.hl
    by_cases hlt : j < l.length
    · have hpp : lp = some ⟨b, o, none⟩ := by
        rcases HP.out with h | h
        · rw [h] at hlt; simp at hlt
        · exact h
      subst hpp
      obtain ⟨⟨v, x⟩, hux⟩ : ∃ ux, l[j]? = some ux := ⟨_, List.getElem?_eq_getElem hlt⟩
      have HUX := Lib.hid (List.mem_of_getElem? hux)
      have EL := (LI.out.stay (stays MK.out.B).1).get hux
      have c0 := EL.c0
      have c1 := EL.c1
      have c2 := EL.c2
      have c3 := EL.c3
      have c4 := EL.c4
      have hatx := EL.at_
      have hatw := (LI.out.get hux).at_
      have hxo := bsTs_get OK.out hux
      have hv := VR.out _ (List.mem_of_getElem? hux)
      simp only at hv
      have XO := Lib.hid hxo.1
      have hxs : x.kids.size ≤ 5000 := by have := hxo.2; omega
      have XA := Lib.hid hatx
      have XW := Lib.hid hatw
      clear EL hux hba hxo hatx hatw
      go_wp2_with fail
      obtain ⟨W1, hW1, hs1, hB1, hc1, hf1⟩ := alloc_new wr #[.int .i64 v, .int .u8 x.k, .string x.s, .int .i64 x.n, .slice x.p x.kids.len x.c] 58
      rw [← hW1]
      have Z1 := Lib.hid hW1
      have M1 := Lib.hid (MK.out.same hB1)
      have hhm : had.length < 1000000 := by omega
      refine (bind_any w.heap.size σ had.length W1 M1.out.sub hhm v hv x XO.out (XA.out.below hB1) hxs).mono ?_
      rintro e w3 hBd
      have hout := hBd.out
      obtain ⟨E, hE⟩ : ∃ E, E = bindE σ v x := ⟨_, rfl⟩
      rw [← hE] at hout
      subst hout
      have EE := Lib.hid hE
      have ET : Hid (E = bindE (look had) v x) := Lib.hid (by rw [hE]; exact bindE_tw M1.out.tw M1.out.sub.ends v x)
      have BD := Lib.hid hBd
      have hS := M1.out.sub.lt
      have hBs := MK.out.B.size
      have hSr := MK.out.sub.lt
      have hN1 : w3.heap[wr.heap.size]? = W1.heap[wr.heap.size]? := hBd.grown.block _ (by omega) (by simp; omega)
      have n0 : w3.cell? ⟨wr.heap.size, 0, none⟩ = some (.int .i64 v) := (World.cell?_of_block (a := ⟨wr.heap.size, 0, none⟩) hN1).trans (hc1 0 _ rfl)
      have n1 : w3.cell? ⟨wr.heap.size, 1, none⟩ = some (.int .u8 x.k) := (World.cell?_of_block (a := ⟨wr.heap.size, 1, none⟩) hN1).trans (hc1 1 _ rfl)
      have n2 : w3.cell? ⟨wr.heap.size, 2, none⟩ = some (.string x.s) := (World.cell?_of_block (a := ⟨wr.heap.size, 2, none⟩) hN1).trans (hc1 2 _ rfl)
      have n3 : w3.cell? ⟨wr.heap.size, 3, none⟩ = some (.int .i64 x.n) := (World.cell?_of_block (a := ⟨wr.heap.size, 3, none⟩) hN1).trans (hc1 3 _ rfl)
      have n4 : w3.cell? ⟨wr.heap.size, 4, none⟩ = some (.slice x.p x.kids.len x.c) := (World.cell?_of_block (a := ⟨wr.heap.size, 4, none⟩) hN1).trans (hc1 4 _ rfl)
      have hk3 := M1.out.kept hBd.grown
      have K3 := Lib.hid hk3
      obtain ⟨q3, c3', hq3, hba3⟩ := row_read hk3.1 MK.out.kids hk3.2
      injection hq3 with hq3a _ hq3b
      subst hq3a
      subst hq3b
      have BA3 := Lib.hid hba3
      clear hE hBd hW1 hc1 hf1 hN1 hk3 hba3 c0 c1 c2 c3 c4
      go_wp2_with fail
      refine (of_any had (by omega) w3 q c BA3.out v).mono ?_
      rintro e w4 ⟨rfl, hB4⟩
      obtain ⟨bd, hbd⟩ : ∃ bd, bd = (look had v).isSome := ⟨_, rfl⟩
      rw [← hbd]
      have BDD := Lib.hid hbd
      obtain ⟨vk, vs, vn, vp, vL, vc, hval⟩ := valOf_agg (look had v)
      rw [hval]
      clear hval hbd
      obtain ⟨W5, hW5, hs5, hB5, hc5, hf5⟩ := alloc_new w4 #[.int .u8 vk, .string vs, .int .i64 vn, .slice vp vL vc] 24
      have B35 : Below w3.heap.size w3 W5 := hB4.trans (hB5.mono hB4.size)
      have k0 := (stays B35).1 wr.heap.size 0 (World.block_lt_of_cell? _ _ n0) |>.trans n0
      have k1 := (stays B35).1 wr.heap.size 1 (World.block_lt_of_cell? _ _ n1) |>.trans n1
      have k2 := (stays B35).1 wr.heap.size 2 (World.block_lt_of_cell? _ _ n2) |>.trans n2
      have k3 := (stays B35).1 wr.heap.size 3 (World.block_lt_of_cell? _ _ n3) |>.trans n3
      have k4 := (stays B35).1 wr.heap.size 4 (World.block_lt_of_cell? _ _ n4) |>.trans n4
      have Z5 := Lib.hid hW5
      have BB5 := Lib.hid B35
      clear hW5 hc5 hf5 B35 hB4 hB5 n0 n1 n2 n3 n4
      go_upto_region 10 with fail
      rw [← Z5.out]
      obtain ⟨hit, hhit⟩ : ∃ hit : Bool, hit = (decide (v < 0) || bd) := ⟨_, rfl⟩
      have HH := Lib.hid hhit
      clear hhit
      go_cut [44] from 16 to 72 (fun s44 wx => s44 = .bool hit ∧ wx = W5)
      case first =>
        by_cases hv0 : v < 0
        · have R : Hid (hit = true) := Lib.hid (by rw [HH.out]; simp [hv0])
          go_wp2
          go_meet
          exact ⟨by rw [R.out], rfl⟩
        · have R : Hid (hit = bd) := Lib.hid (by rw [HH.out]; simp [hv0])
          go_wp2
          go_meet
          exact ⟨by rw [R.out], rfl⟩
      case rest =>
        obtain ⟨rfl, hw⟩ := hcut
        have hw' := hw.symm
        clear hw
        subst hw'
        go_upto_if 44 with fail
        go_cut [12, 13, 14] from 16 to 72 (fun s12 s13 s14 wx => s12 = .int .i64 E ∧ Hid (Below W5.heap.size W5 wx))
        case first =>
          cases hit with
          | true =>
            have R : Hid (E = 1) := Lib.hid (by
              rw [ET.out]
              unfold bindE
              by_cases hv0 : v < 0
              · rw [if_pos hv0]
              · have h := HH.out
                rw [BDD.out] at h
                rw [if_neg hv0, if_pos (by simpa [hv0] using h.symm)])
            go_wp2
            go_meet
            exact ⟨by rw [R.out], Lib.hid (Below.refl _ _)⟩
          | false =>
            obtain ⟨ob, oe, hocc⟩ : ∃ ob oe, occ v (num 0 (vis (look had) 4097 [x])) = (ob, oe) := ⟨_, _, rfl⟩
            have RE : Hid (E = if oe ≠ 0 then oe else if ob = true then 1 else 0) := Lib.hid (by
              have h := HH.out
              rw [BDD.out] at h
              have hv0 : ¬ v < 0 := fun e => by rw [decide_eq_true e] at h; cases h
              have hb0 : ¬ (look had v).isSome = true := fun e => by rw [e] at h; simp at h
              rw [ET.out]
              unfold bindE
              rw [if_neg hv0, if_neg hb0, hocc])
            have OCC := Lib.hid hocc
            clear hocc
            go_wp2_with fail
            refine (roccurs_any had (by omega) M1.out.ends (small_of M1.out.sm) W5 q c (BA3.out.below BB5.out) x XO.out hxs (XW.out.below (K3.out.2.trans (BB5.out.mono K3.out.2.size))) v).mono ?_
            rintro e w6 ⟨rfl, hB6⟩
            rw [OCC.out]
            have B6 := Lib.hid hB6
            clear hB6
            by_cases hoe : (oe != 0) = true
            · have R : Hid (E = oe) := Lib.hid (by rw [RE.out, if_pos (by simpa using hoe)])
              go_wp2
              go_meet
              exact ⟨by rw [R.out], B6⟩
            · have hoe0 : oe = 0 := by simpa using hoe
              subst hoe0
              clear hoe
              cases ob with
              | true =>
                have R : Hid (E = 1) := Lib.hid (by rw [RE.out, if_neg (by simp), if_pos rfl])
                go_wp2
                go_meet
                exact ⟨by rw [R.out], B6⟩
              | false =>
                have R : Hid (E = 0) := Lib.hid (by rw [RE.out, if_neg (by simp), if_neg (by simp)])
                go_wp2
                go_meet
                exact ⟨by rw [R.out], B6⟩
        case rest =>
          obtain ⟨rfl, B7⟩ := hcut
          have m0 := (stays B7.out).1 wr.heap.size 0 (World.block_lt_of_cell? _ _ k0) |>.trans k0
          have m1 := (stays B7.out).1 wr.heap.size 1 (World.block_lt_of_cell? _ _ k1) |>.trans k1
          have m2 := (stays B7.out).1 wr.heap.size 2 (World.block_lt_of_cell? _ _ k2) |>.trans k2
          have m3 := (stays B7.out).1 wr.heap.size 3 (World.block_lt_of_cell? _ _ k3) |>.trans k3
          have m4 := (stays B7.out).1 wr.heap.size 4 (World.block_lt_of_cell? _ _ k4) |>.trans k4
          clear k0 k1 k2 k3 k4
          by_cases hE0 : (E == 0) = true
          · have hE1 : E = 0 := by simpa using hE0
            obtain ⟨σ', hmid⟩ := M1.out.bound BD.out (by rw [← EE.out]; exact hE1) (bindE_zero (by rw [← ET.out]; exact hE1))
            have MID := Lib.hid ((hmid.same BB5.out).same B7.out)
            have MIDA := Lib.hid (MID.out.same ((Below.refl _ _).alloc (Nat.le_refl _) (.cells #[.int .i64 v, .int .u8 x.k, .string x.s, .int .i64 x.n, .slice x.p x.kids.len x.c] 58)))
            have hnews : ∀ i u, (cellsB [(v, x)])[i]? = some u → (wc.alloc (.cells #[.int .i64 v, .int .u8 x.k, .string x.s, .int .i64 x.n, .slice x.p x.kids.len x.c] 58)).cell? ((⟨wc.heap.size, 0, none⟩ : Addr).add i) = some u := by
              obtain ⟨W6, hW6, hs6, hB6, hc6, -⟩ := alloc_new wc #[.int .i64 v, .int .u8 x.k, .string x.s, .int .i64 x.n, .slice x.p x.kids.len x.c] 58
              intro i u hiu
              rw [Go.WideShapes.add_plain, Nat.zero_add, ← hW6]
              exact hc6 i u (by simpa [cellsB] using hiu)
            have N0 := Lib.hid hnews
            have hBs7 : w.heap.size ≤ wc.heap.size := MID.out.B.size
            have CH2 := Lib.hid (CH.out.snoc HUX.out (by rw [← ET.out]; exact hE1))
            clear hE1 hmid hnews
            go_wp2_with (at_builtin; refine wpList_append_own_at _ rfl _ _ 39 rfl w.heap.size 58 i0 zeroB 5 64 Try.underlying39 hi hz0 hz1 hz2 rfl (by decide) _ _ _ rfl MIDA.out.own ⟨wc.heap.size, 0, none⟩ 1 1 (cellsB [(v, x)]) rfl rfl N0.out (cellsB_one _) (by unfold maxLen; omega) (by omega) (by simp; omega) ?_; intro v5 W7 hown2 hgrow2 hnil hob; have X := Lib.hid (And.intro hown2 (And.intro hgrow2 hob)); clear hown2 hgrow2 hnil hob)
            have MN := Lib.hid (MIDA.out.push hhl MK.out.kids XW.out MK.out.sm ⟨XO.out, hxs⟩ X.out.1 X.out.2.1 X.out.2.2)
            go_roundw
            case rel => exact ⟨j + 1, had ++ [(v, x)], σ', by omega, by go_num, MN, CH2⟩
            case measure => simp [intOf]; omega
          · rw [Bool.not_eq_true] at hE0
            have MN := Lib.hid (((M1.out.same (BD.out.no (by rw [← EE.out]; simpa using hE0))).same BB5.out).same B7.out).up
            go_wp2
            go_roundw
            case rel => exact ⟨j + 1, had, σ, by omega, by go_num, MN, CH⟩
            case measure => simp [intOf]; omega
    · go_wp2_with fail
      refine (len_any w.heap.size σ had.length wr MK.out.sub).mono ?_
      rintro e w9 ⟨rfl, hw9⟩
      have hw' := hw9
      subst hw'
      have BAF := Lib.hid hba
      clear hba
      go_wp2
      exact bodyPost_ret (v := .tuple #[.pointer (some ⟨w.heap.size, 0, none⟩), .slice q had.length c, .bool true]) (by simp [results, Try.results25, go_sem]) rfl ⟨had, σ, q, c, rfl, by omega, MK.out.sub, MK.out.tw, CH.out, MK.out.B⟩

end Go.Proofs.Ytflomdnjabgnaaa
/-
  Layer 4: a visit more makes no difference but for being full; lists and structures.
-/
namespace Go.Proofs.Ytflomdnjabgnaaa
open Go.RowKit

theorem vis_prefix {σ : Sb} : ∀ (f : Nat) (l : List Nd), ∃ m, vis σ (f + 1) l = vis σ f l ++ m
  | 0, l => ⟨vis σ 1 l, by simp [vis]⟩
  | _ + 1, [] => ⟨[], by simp [vis]⟩
  | f + 1, t :: rest => by
    obtain ⟨m, hm⟩ := vis_prefix f (elems (wk σ t).kids ++ rest)
    refine ⟨m, ?_⟩
    rw [vis, hm]
    rfl

theorem posA_prefix {v : Int} : ∀ {l m : List Nd} {i : Nat}, 0 ≤ posA v i l → posA v i (l ++ m) = posA v i l
  | [], _, _, h => by simp only [posA] at h; omega
  | x :: l, m, i, h => by
    simp only [posA, List.cons_append] at h ⊢
    split
    · rfl
    · rename_i hx
      rw [if_neg hx] at h
      exact posA_prefix h

theorem bnd_fuel {r : Nat} {σ : Sb} {v : Int} {t : Nd} : (bnd r σ v t = .no → bnd (r + 1) σ v t = .no) ∧ (∀ r', bnd r σ v t = .ok r' → bnd (r + 1) σ v t = .ok (r' + 1)) := by
  have same : (vis σ (r + 1) [t]).length ≤ r → vis σ (r + 1 + 1) [t] = vis σ (r + 1) [t] := fun h => vis_mono (r + 1) (r + 1 + 1) (by omega) (by omega)
  refine ⟨fun h => ?_, fun r' h => ?_⟩
  · unfold bnd at h
    split at h
    · rename_i h1
      obtain ⟨m, hm⟩ := vis_prefix (σ := σ) (r + 1) [t]
      unfold bnd
      rw [hm, posA_prefix h1.1, if_pos ⟨h1.1, by omega⟩]
    · rename_i h1
      split at h
      · cases h
      · rename_i h2
        split at h
        · rename_i h3
          unfold bnd
          rw [same (by omega)]
          have hp := posA_le v (vis σ (r + 1) [t]) 0
          rw [if_neg (by omega), if_neg (by omega), if_pos h3]
        · cases h
  · obtain ⟨h1, h2, h3, rfl⟩ := bnd_not h
    unfold bnd
    rw [same h2, if_neg (by omega), if_neg (by omega), if_neg (by omega)]
    congr 1
    omega

theorem one_fuel {r c : Nat} {σ : Sb} {a b : Nd} : (one r c σ a b = .no → one (r + 1) c σ a b = .no) ∧ (∀ σ' c' r' l, one r c σ a b = .ok σ' c' r' l → one (r + 1) c σ a b = .ok σ' c' (r' + 1) l) := by
  by_cases kx : ((wk σ a).k == 1) = true
  · by_cases hsm : ((wk σ b).k == 1) = true ∧ (wk σ a).n = (wk σ b).n
    · rw [one_same kx hsm.1 hsm.2, one_same kx hsm.1 hsm.2]
      exact ⟨(fun h => by cases h), fun _ _ _ _ h => by cases h; rfl⟩
    · rw [one_x kx hsm, one_x kx hsm]
      have hb := bnd_fuel (r := r) (σ := σ) (v := (wk σ a).n) (t := wk σ b)
      cases e : bnd r σ (wk σ a).n (wk σ b) with
      | full => exact ⟨(fun h => by cases h), fun _ _ _ _ h => by cases h⟩
      | no => rw [hb.1 e]; exact ⟨fun _ => rfl, fun _ _ _ _ h => by cases h⟩
      | ok r2 =>
        rw [hb.2 r2 e]
        refine ⟨(fun h => by cases h), fun _ _ _ _ h => ?_⟩
        cases h
        simp only
        congr 1
        omega
  · rw [Bool.not_eq_true] at kx
    by_cases ky : ((wk σ b).k == 1) = true
    · rw [one_y kx ky, one_y kx ky]
      have hb := bnd_fuel (r := r) (σ := σ) (v := (wk σ b).n) (t := wk σ a)
      cases e : bnd r σ (wk σ b).n (wk σ a) with
      | full => exact ⟨(fun h => by cases h), fun _ _ _ _ h => by cases h⟩
      | no => rw [hb.1 e]; exact ⟨fun _ => rfl, fun _ _ _ _ h => by cases h⟩
      | ok r2 =>
        rw [hb.2 r2 e]
        refine ⟨(fun h => by cases h), fun _ _ _ _ h => ?_⟩
        cases h
        simp only
        congr 1
        omega
    · rw [Bool.not_eq_true] at ky
      rw [one_struct kx ky, one_struct kx ky]
      split
      · exact ⟨(fun h => by cases h), fun _ _ _ _ h => by cases h; rfl⟩
      · exact ⟨fun _ => rfl, fun _ _ _ _ h => by cases h⟩

theorem un_fuel : ∀ (r : Nat) {c : Nat} {σ : Sb} {l : List (Nd × Nd)}, (un r c σ l = .no → un (r + 1) c σ l = .no) ∧ (∀ ρ c' r', un r c σ l = .ok ρ c' r' → un (r + 1) c σ l = .ok ρ c' (r' + 1)) := by
  intro r
  induction r using Nat.strongRecOn with
  | ind r ih =>
  intro c σ l
  cases l with
  | nil => rw [un_nil, un_nil]; exact ⟨(fun h => by cases h), fun _ _ _ h => by cases h; rfl⟩
  | cons p l =>
    obtain ⟨a, b⟩ := p
    cases r with
    | zero => rw [un_zero]; exact ⟨(fun h => by cases h), fun _ _ _ h => by cases h⟩
    | succ r =>
      have ho := one_fuel (r := r) (c := c) (σ := σ) (a := a) (b := b)
      cases e : one r c σ a b with
      | full => rw [un_full e]; exact ⟨(fun h => by cases h), fun _ _ _ h => by cases h⟩
      | no => rw [un_no e, un_no (ho.1 e)]; exact ⟨fun _ => rfl, fun _ _ _ h => by cases h⟩
      | ok σ1 c1 r1 m =>
        rw [un_ok e, un_ok (ho.2 _ _ _ _ e)]
        have hr := one_le e
        exact ih r1 (by omega)

/-- lists and structures of them -/
theorem un_structs {A B : Ts} {X Y : Nd} (hx : X.k = 4 ∧ Y.k = 4 ∧ X.s = Y.s ∧ X.n = Y.n) (hA : Ts.twin X.kids A) (hB : Ts.twin Y.kids B) (hl : A.len = B.len) :
    (un 4096 0 Sb.none [(X, Y)] = .no → un 4096 0 Sb.none ((elems A).zip (elems B)) = .no) ∧ ∀ ρ c r, un 4096 0 Sb.none [(X, Y)] = .ok ρ c r → ∃ ρ' r', un 4096 0 Sb.none ((elems A).zip (elems B)) = .ok ρ' c r' ∧ STw ρ ρ' := by
  have wx : wk Sb.none X = X := wk_stop (.inr rfl)
  have wy : wk Sb.none Y = Y := wk_stop (.inr rfl)
  have hh : headU X Y = true := by
    unfold headU
    rw [hx.1, hx.2.1, hx.2.2.1, hx.2.2.2, Ts.twin_len _ _ hA, Ts.twin_len _ _ hB, hl]
    simp
  have e : one 4095 0 Sb.none X Y = .ok Sb.none 0 4095 ((elems X.kids).zip (elems Y.kids)) := by
    rw [one_struct (by rw [wx, hx.1]; rfl) (by rw [wy, hx.2.1]; rfl), wx, wy, if_pos hh]
  have e1 : un 4096 0 Sb.none [(X, Y)] = un 4095 0 Sb.none ((elems X.kids).zip (elems Y.kids)) := by
    rw [show (4096 : Nat) = 4095 + 1 from rfl, un_ok e, List.append_nil]
  have ht := un_tw 4095 0 (STw.refl Sb.none) Ends.none ((elems_tw hA).zip (elems_tw hB))
  have hf := un_fuel 4095 (c := 0) (σ := Sb.none) (l := (elems A).zip (elems B))
  rw [e1]
  refine ⟨fun h => ?_, fun ρ c r h => ?_⟩
  · rw [h] at ht
    exact hf.1 (Out.tw_no ht)
  · rw [h] at ht
    obtain ⟨ρ', h2, h3⟩ := Out.tw_ok ht
    exact ⟨ρ', _, hf.2 _ _ _ h2, h3⟩

/-- of lists of two lengths -/
theorem un_lens {A B : Ts} {X Y : Nd} (hx : X.k = 4 ∧ Y.k = 4) (hA : Ts.twin X.kids A) (hB : Ts.twin Y.kids B) (hl : A.len ≠ B.len) : un 4096 0 Sb.none [(X, Y)] = .no := by
  have wx : wk Sb.none X = X := wk_stop (.inr rfl)
  have wy : wk Sb.none Y = Y := wk_stop (.inr rfl)
  have hh : headU X Y = false := by
    unfold headU
    rw [Ts.twin_len _ _ hA, Ts.twin_len _ _ hB, decide_eq_false hl]
    simp
  have e : one 4095 0 Sb.none X Y = .no := by
    rw [one_struct (by rw [wx, hx.1]; rfl) (by rw [wy, hx.2]; rfl), wx, wy, if_neg (by rw [hh]; simp)]
  rw [show (4096 : Nat) = 4095 + 1 from rfl, un_no e]

end Go.Proofs.Ytflomdnjabgnaaa
