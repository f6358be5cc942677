import Derived.Test.YtnmhnaanpjlniaaGreatBd
import Derived.Test.YtnmhnaanpjlniaaGreatDd
/-
  Layer 4: what Make makes is made of its bindings, one behind the other. (Written by gen_de.py out of Ba.)
-/
namespace Go.Proofs.YtnmhnaanpjlniaaGreat
open Go.RowKit

/-- bound one behind the other -/
inductive Chain (l : List (Int × Nd)) : List (Int × Nd) → Prop
  | nil : Chain l []
  | snoc {had : List (Int × Nd)} {v : Int} {x : Nd} (h : Chain l had) (hm : (v, x) ∈ l) (h0 : bindE (look had) v x = 0) : Chain l (had ++ [(v, x)])

theorem look_put {had : List (Int × Nd)} {v : Int} {x : Nd} (hv : look had v = none) : look (had ++ [(v, x)]) = (look had).put v x := by
  funext u
  rw [look_snoc]
  by_cases e : u = v
  · subst e
    rw [hv, Sb.put_same]
    simp
  · rw [Sb.put_other e, if_neg (by simpa using fun h => e h.symm)]
    cases look had u <;> rfl

theorem Chain.mg {l : List (Int × Nd)} (hl : ∀ e ∈ l, goodN e.2) {had : List (Int × Nd)} (h : Chain l had) : (∃ θ, Mg θ (look had)) ∧ goodS (look had) ∧ Ends (look had) := by
  induction h with
  | nil => exact ⟨⟨Tm.var, (fun v x hx => by cases hx), fun v _ => rfl⟩, (fun v x hx => by cases hx), Ends.none⟩
  | @snoc had v x _ hm h0 ih =>
    obtain ⟨⟨θ, hmg⟩, hg, hE⟩ := ih
    have hv := bindE_zero h0
    have hp : posA v 0 (vis (look had) 4097 [x]) < 0 ∧ (vis (look had) 4097 [x]).length ≤ 4096 := by
      have hle := vis_length (look had) 4097 [x]
      unfold bindE at h0
      have hn : ¬ v < 0 := fun e => by rw [if_pos e] at h0; omega
      rw [if_neg hn, if_neg (by rw [hv]; simp), occ_pos v _ 0 (by omega) (by omega)] at h0
      have hp := posA_le v (vis (look had) 4097 [x]) 0
      by_cases c1 : 0 ≤ posA v 0 (vis (look had) 4097 [x]) ∧ posA v 0 (vis (look had) 4097 [x]) ≤ 4096
      · rw [if_pos c1] at h0; simp at h0
      · rw [if_neg c1] at h0
        by_cases c2 : 4096 < 0 + (vis (look had) 4097 [x]).length
        · rw [if_pos c2] at h0; simp at h0
        · exact ⟨by omega, by omega⟩
    rw [look_put hv]
    have hnh := vis_has hmg hE 4097 (l := [x]) (by omega) (posA_no hp.1) x (List.mem_singleton.2 rfl)
    refine ⟨⟨_, hmg.put hv hnh⟩, goodS_put hg (hl _ hm), ?_⟩
    refine hE.put hv fun hc => ?_
    have h1 := hp.1
    simp only [vis, posA] at h1
    rw [if_pos (by rw [hc.1, hc.2]; simp)] at h1
    omega

set_option maxRecDepth 100000 in
set_option maxHeartbeats 16000000 in
theorem make_full (l : List (Int × Nd)) (hl : l.length ≤ 40) (hok : (bsTs l).ok) (hsz : (bsTs l).size ≤ 5000) (hvr : ∀ e ∈ l, -9223372036854775808 ≤ e.1 ∧ e.1 ≤ 9223372036854775807) (w : World) (lp : Option Addr) (lc : Nat) (hat : BsAt w lp l) :
    Calls Tryz.prog 12 #[.slice lp l.length lc] w (fun e w' => ∃ had σ q c, e = .returned (.tuple #[.pointer (some ⟨w.heap.size, 0, none⟩), .slice q had.length c, .bool true]) ∧ had.length ≤ l.length ∧ SubAt w.heap.size σ had.length w' ∧ STw σ (look had) ∧ Chain l had ∧ Below w.heap.size w w' ∧ BsAt w' q had ∧ ∀ e ∈ had, e.2.ok ∧ e.2.kids.size ≤ 5000) := by
  obtain ⟨b, o, hp, hlies⟩ := hat
  have HP := Lib.hid hp
  have LI := Lib.hid hlies
  have OK := Lib.hid hok
  have VR := Lib.hid hvr
  obtain ⟨i0, hi, hz0, hz1, hz2⟩ := info_parts infoB
  clear hp hlies hok hvr
  go_enter Tryz.func12, Tryz.ntmps12
  go_wp2_with fail
  refine (new_any w).mono ?_
  rintro e W0 ⟨rfl, hS0, hB0⟩
  have M0 : Hid (MkIn w 0 (.slice none 0 0) [] Sb.none W0) := Lib.hid ⟨Nat.le_refl _, World.ownsRow_nil _ _ _ _, trivial, hS0, STw.none, (fun e he => by cases he), (fun v x hx => by cases hx), hB0⟩
  clear hS0 hB0
  go_wp2_with fail
  go_loopw [6, 7] (fun s6 s7 wr => ∃ (j : Nat) (had : List (Int × Nd)) (σ : Sb), j ≤ l.length ∧ s7 = .int .i64 j ∧ Hid (MkIn w j s6 had σ wr) ∧ Hid (Chain l had)) (fun _ i _ => l.length - (intOf i).toNat)
  case atStart => exact ⟨0, [], Sb.none, by omega, rfl, M0, Lib.hid .nil⟩
  case round =>
    rename_i s6
    obtain ⟨j, had, σ, hj, rfl, MK, CH⟩ := hrel
    obtain ⟨q, c, hs6, hba⟩ := row_read MK.out.own MK.out.kids MK.out.B
    subst hs6
    have hhl := MK.out.hl
    by_cases hlt : j < l.length
    · have hpp : lp = some ⟨b, o, none⟩ := by
        rcases HP.out with h | h
        · rw [h] at hlt; simp at hlt
        · exact h
      subst hpp
      obtain ⟨⟨v, x⟩, hux⟩ : ∃ ux, l[j]? = some ux := ⟨_, List.getElem?_eq_getElem hlt⟩
      have HUX := Lib.hid (List.mem_of_getElem? hux)
      have EL := (LI.out.stay (stays MK.out.B).1).get hux
      have c0 := EL.c0
      have c1 := EL.c1
      have c2 := EL.c2
      have c3 := EL.c3
      have c4 := EL.c4
      have hatx := EL.at_
      have hatw := (LI.out.get hux).at_
      have hxo := bsTs_get OK.out hux
      have hv := VR.out _ (List.mem_of_getElem? hux)
      simp only at hv
      have XO := Lib.hid hxo.1
      have hxs : x.kids.size ≤ 5000 := by have := hxo.2; omega
      have XA := Lib.hid hatx
      have XW := Lib.hid hatw
      clear EL hux hba hxo hatx hatw
      go_wp2_with fail
      obtain ⟨W1, hW1, hs1, hB1, hc1, hf1⟩ := alloc_new wr #[.int .i64 v, .int .u8 x.k, .string x.s, .int .i64 x.n, .slice x.p x.kids.len x.c] 56
      rw [← hW1]
      have Z1 := Lib.hid hW1
      have M1 := Lib.hid (MK.out.same hB1)
      have hhm : had.length < 1000000 := by omega
      refine (bind_any w.heap.size σ had.length W1 M1.out.sub hhm v hv x XO.out (XA.out.below hB1) hxs).mono ?_
      rintro e w3 hBd
      have hout := hBd.out
      obtain ⟨E, hE⟩ : ∃ E, E = bindE σ v x := ⟨_, rfl⟩
      rw [← hE] at hout
      subst hout
      have EE := Lib.hid hE
      have ET : Hid (E = bindE (look had) v x) := Lib.hid (by rw [hE]; exact bindE_tw M1.out.tw M1.out.sub.ends v x)
      have BD := Lib.hid hBd
      have hS := M1.out.sub.lt
      have hBs := MK.out.B.size
      have hSr := MK.out.sub.lt
      have hN1 : w3.heap[wr.heap.size]? = W1.heap[wr.heap.size]? := hBd.grown.block _ (by omega) (by simp; omega)
      have n0 : w3.cell? ⟨wr.heap.size, 0, none⟩ = some (.int .i64 v) := (World.cell?_of_block (a := ⟨wr.heap.size, 0, none⟩) hN1).trans (hc1 0 _ rfl)
      have n1 : w3.cell? ⟨wr.heap.size, 1, none⟩ = some (.int .u8 x.k) := (World.cell?_of_block (a := ⟨wr.heap.size, 1, none⟩) hN1).trans (hc1 1 _ rfl)
      have n2 : w3.cell? ⟨wr.heap.size, 2, none⟩ = some (.string x.s) := (World.cell?_of_block (a := ⟨wr.heap.size, 2, none⟩) hN1).trans (hc1 2 _ rfl)
      have n3 : w3.cell? ⟨wr.heap.size, 3, none⟩ = some (.int .i64 x.n) := (World.cell?_of_block (a := ⟨wr.heap.size, 3, none⟩) hN1).trans (hc1 3 _ rfl)
      have n4 : w3.cell? ⟨wr.heap.size, 4, none⟩ = some (.slice x.p x.kids.len x.c) := (World.cell?_of_block (a := ⟨wr.heap.size, 4, none⟩) hN1).trans (hc1 4 _ rfl)
      have hk3 := M1.out.kept hBd.grown
      have K3 := Lib.hid hk3
      obtain ⟨q3, c3', hq3, hba3⟩ := row_read hk3.1 MK.out.kids hk3.2
      injection hq3 with hq3a _ hq3b
      subst hq3a
      subst hq3b
      have BA3 := Lib.hid hba3
      clear hE hBd hW1 hc1 hf1 hN1 hk3 hba3 c0 c1 c2 c3 c4
      go_wp2_with fail
      refine (of_any had (by omega) w3 q c BA3.out v).mono ?_
      rintro e w4 ⟨rfl, hB4⟩
      obtain ⟨bd, hbd⟩ : ∃ bd, bd = (look had v).isSome := ⟨_, rfl⟩
      rw [← hbd]
      have BDD := Lib.hid hbd
      obtain ⟨vk, vs, vn, vp, vL, vc, hval⟩ := valOf_agg (look had v)
      rw [hval]
      clear hval hbd
      obtain ⟨W5, hW5, hs5, hB5, hc5, hf5⟩ := alloc_new w4 #[.int .u8 vk, .string vs, .int .i64 vn, .slice vp vL vc] 25
      have B35 : Below w3.heap.size w3 W5 := hB4.trans (hB5.mono hB4.size)
      have k0 := (stays B35).1 wr.heap.size 0 (World.block_lt_of_cell? _ _ n0) |>.trans n0
      have k1 := (stays B35).1 wr.heap.size 1 (World.block_lt_of_cell? _ _ n1) |>.trans n1
      have k2 := (stays B35).1 wr.heap.size 2 (World.block_lt_of_cell? _ _ n2) |>.trans n2
      have k3 := (stays B35).1 wr.heap.size 3 (World.block_lt_of_cell? _ _ n3) |>.trans n3
      have k4 := (stays B35).1 wr.heap.size 4 (World.block_lt_of_cell? _ _ n4) |>.trans n4
      have Z5 := Lib.hid hW5
      have BB5 := Lib.hid B35
      clear hW5 hc5 hf5 B35 hB4 hB5 n0 n1 n2 n3 n4
      go_upto_region 10 with fail
      rw [← Z5.out]
      obtain ⟨hit, hhit⟩ : ∃ hit : Bool, hit = (decide (v < 0) || bd) := ⟨_, rfl⟩
      have HH := Lib.hid hhit
      clear hhit
      go_cut [44] from 16 to 72 (fun s44 wx => s44 = .bool hit ∧ wx = W5)
      case first =>
        by_cases hv0 : v < 0
        · have R : Hid (hit = true) := Lib.hid (by rw [HH.out]; simp [hv0])
          go_wp2
          go_meet
          exact ⟨by rw [R.out], rfl⟩
        · have R : Hid (hit = bd) := Lib.hid (by rw [HH.out]; simp [hv0])
          go_wp2
          go_meet
          exact ⟨by rw [R.out], rfl⟩
      case rest =>
        obtain ⟨rfl, hw⟩ := hcut
        have hw' := hw.symm
        clear hw
        subst hw'
        go_upto_if 44 with fail
        go_cut [12, 13, 14] from 16 to 72 (fun s12 s13 s14 wx => s12 = .int .i64 E ∧ Hid (Below W5.heap.size W5 wx))
        case first =>
          cases hit with
          | true =>
            have R : Hid (E = 1) := Lib.hid (by
              rw [ET.out]
              unfold bindE
              by_cases hv0 : v < 0
              · rw [if_pos hv0]
              · have h := HH.out
                rw [BDD.out] at h
                rw [if_neg hv0, if_pos (by simpa [hv0] using h.symm)])
            go_wp2
            go_meet
            exact ⟨by rw [R.out], Lib.hid (Below.refl _ _)⟩
          | false =>
            obtain ⟨ob, oe, hocc⟩ : ∃ ob oe, occ v (num 0 (vis (look had) 4097 [x])) = (ob, oe) := ⟨_, _, rfl⟩
            have RE : Hid (E = if oe ≠ 0 then oe else if ob = true then 1 else 0) := Lib.hid (by
              have h := HH.out
              rw [BDD.out] at h
              have hv0 : ¬ v < 0 := fun e => by rw [decide_eq_true e] at h; cases h
              have hb0 : ¬ (look had v).isSome = true := fun e => by rw [e] at h; simp at h
              rw [ET.out]
              unfold bindE
              rw [if_neg hv0, if_neg hb0, hocc])
            have OCC := Lib.hid hocc
            clear hocc
            go_wp2_with fail
            refine (roccurs_any had (by omega) M1.out.ends (small_of M1.out.sm) W5 q c (BA3.out.below BB5.out) x XO.out hxs (XW.out.below (K3.out.2.trans (BB5.out.mono K3.out.2.size))) v).mono ?_
            rintro e w6 ⟨rfl, hB6⟩
            rw [OCC.out]
            have B6 := Lib.hid hB6
            clear hB6
            by_cases hoe : (oe != 0) = true
            · have R : Hid (E = oe) := Lib.hid (by rw [RE.out, if_pos (by simpa using hoe)])
              go_wp2
              go_meet
              exact ⟨by rw [R.out], B6⟩
            · have hoe0 : oe = 0 := by simpa using hoe
              subst hoe0
              clear hoe
              cases ob with
              | true =>
                have R : Hid (E = 1) := Lib.hid (by rw [RE.out, if_neg (by simp), if_pos rfl])
                go_wp2
                go_meet
                exact ⟨by rw [R.out], B6⟩
              | false =>
                have R : Hid (E = 0) := Lib.hid (by rw [RE.out, if_neg (by simp), if_neg (by simp)])
                go_wp2
                go_meet
                exact ⟨by rw [R.out], B6⟩
        case rest =>
          obtain ⟨rfl, B7⟩ := hcut
          have m0 := (stays B7.out).1 wr.heap.size 0 (World.block_lt_of_cell? _ _ k0) |>.trans k0
          have m1 := (stays B7.out).1 wr.heap.size 1 (World.block_lt_of_cell? _ _ k1) |>.trans k1
          have m2 := (stays B7.out).1 wr.heap.size 2 (World.block_lt_of_cell? _ _ k2) |>.trans k2
          have m3 := (stays B7.out).1 wr.heap.size 3 (World.block_lt_of_cell? _ _ k3) |>.trans k3
          have m4 := (stays B7.out).1 wr.heap.size 4 (World.block_lt_of_cell? _ _ k4) |>.trans k4
          clear k0 k1 k2 k3 k4
          by_cases hE0 : (E == 0) = true
          · have hE1 : E = 0 := by simpa using hE0
            obtain ⟨σ', hmid⟩ := M1.out.bound BD.out (by rw [← EE.out]; exact hE1) (bindE_zero (by rw [← ET.out]; exact hE1))
            have MID := Lib.hid ((hmid.same BB5.out).same B7.out)
            have MIDA := Lib.hid (MID.out.same ((Below.refl _ _).alloc (Nat.le_refl _) (.cells #[.int .i64 v, .int .u8 x.k, .string x.s, .int .i64 x.n, .slice x.p x.kids.len x.c] 56)))
            have hnews : ∀ i u, (cellsB [(v, x)])[i]? = some u → (wc.alloc (.cells #[.int .i64 v, .int .u8 x.k, .string x.s, .int .i64 x.n, .slice x.p x.kids.len x.c] 56)).cell? ((⟨wc.heap.size, 0, none⟩ : Addr).add i) = some u := by
              obtain ⟨W6, hW6, hs6, hB6, hc6, -⟩ := alloc_new wc #[.int .i64 v, .int .u8 x.k, .string x.s, .int .i64 x.n, .slice x.p x.kids.len x.c] 56
              intro i u hiu
              rw [Go.WideShapes.add_plain, Nat.zero_add, ← hW6]
              exact hc6 i u (by simpa [cellsB] using hiu)
            have N0 := Lib.hid hnews
            have hBs7 : w.heap.size ≤ wc.heap.size := MID.out.B.size
            have CH2 := Lib.hid (CH.out.snoc HUX.out (by rw [← ET.out]; exact hE1))
            clear hE1 hmid hnews
            go_wp2_with (at_builtin; refine wpList_append_own_at _ rfl _ _ 22 rfl w.heap.size 56 i0 zeroB 5 64 Tryz.underlying22 hi hz0 hz1 hz2 rfl (by decide) _ _ _ rfl MIDA.out.own ⟨wc.heap.size, 0, none⟩ 1 1 (cellsB [(v, x)]) rfl rfl N0.out (cellsB_one _) (by unfold maxLen; omega) (by omega) (by simp; omega) ?_; intro v5 W7 hown2 hgrow2 hnil hob; have X := Lib.hid (And.intro hown2 (And.intro hgrow2 hob)); clear hown2 hgrow2 hnil hob)
            have MN := Lib.hid (MIDA.out.push hhl MK.out.kids XW.out MK.out.sm ⟨XO.out, hxs⟩ X.out.1 X.out.2.1 X.out.2.2)
            go_roundw
            case rel => exact ⟨j + 1, had ++ [(v, x)], σ', by omega, by go_num, MN, CH2⟩
            case measure => simp [intOf]; omega
          · rw [Bool.not_eq_true] at hE0
            have MN := Lib.hid (((M1.out.same (BD.out.no (by rw [← EE.out]; simpa using hE0))).same BB5.out).same B7.out).up
            go_wp2
            go_roundw
            case rel => exact ⟨j + 1, had, σ, by omega, by go_num, MN, CH⟩
            case measure => simp [intOf]; omega
    · go_wp2_with fail
      refine (len_any w.heap.size σ had.length wr MK.out.sub).mono ?_
      rintro e w9 ⟨rfl, hw9⟩
      have hw' := hw9
      subst hw'
      have BAF := Lib.hid hba
      clear hba
      go_wp2
      exact bodyPost_ret (v := .tuple #[.pointer (some ⟨w.heap.size, 0, none⟩), .slice q had.length c, .bool true]) (by simp [results, Tryz.results12, go_sem]) rfl ⟨had, σ, q, c, rfl, by omega, MK.out.sub, MK.out.tw, CH.out, MK.out.B, BAF.out, MK.out.sm⟩


end Go.Proofs.YtnmhnaanpjlniaaGreat
/-
  Layer 4: a visit more makes no difference but for being full; lists and structures.
-/
namespace Go.Proofs.YtnmhnaanpjlniaaGreat
open Go.RowKit








end Go.Proofs.YtnmhnaanpjlniaaGreat
/-
  Layer 4: lists against structures: what is asked of both.
-/
namespace Go.Proofs.YtnmhnaanpjlniaaGreat
open Go.RowKit






/-- what Apply tells -/
def ApF (σ : Sb) (t X : Nd) (G : Int) (w : World) : Prop :=
  ((vis σ 4097 [t]).length = 4097 ∧ X = ⟨0, ⟨#[]⟩, 0, none, 0, .nil⟩ ∧ G = 31) ∨ ((vis σ 4097 [t]).length ≤ 4096 ∧ G = 0 ∧ Ap σ t X ∧ Ts.At w X.p X.kids)

theorem ApF.below {σ : Sb} {t X : Nd} {G : Int} {w w' : World} (h : ApF σ t X G w) (hB : Below w.heap.size w w') : ApF σ t X G w' := by
  rcases h with h | ⟨h1, h2, h3, h4⟩
  · exact .inl h
  · exact .inr ⟨h1, h2, h3, h4.below hB⟩


/-- applied by two substitutions that are alike -/
theorem ApF.both {σ ρ : Sb} (h : STw σ ρ) (hE : Ends σ) {t X Y : Nd} {G K : Int} {w w' : World} (h1 : ApF σ t X G w) (h2 : ApF ρ t Y K w') :
    G = K ∧ X.twin Y ∧ X.kids.ok ∧ Y.kids.ok ∧ X.kids.len ≤ 1000000 ∧ Ts.At w X.p X.kids ∧ Ts.At w' Y.p Y.kids := by
  have hv := (h.vis hE 4097 (.cons (Nd.twin_refl t) .nil)).length
  rcases h1 with ⟨g1, rfl, rfl⟩ | ⟨g1, rfl, g3, g4⟩
  · rcases h2 with ⟨k1, rfl, rfl⟩ | ⟨k1, rfl, k3, k4⟩
    · exact ⟨rfl, Nd.twin_refl _, trivial, trivial, by simp [Ts.len], ⟨0, 0, .inl rfl, trivial⟩, ⟨0, 0, .inl rfl, trivial⟩⟩
    · omega
  · rcases h2 with ⟨k1, rfl, rfl⟩ | ⟨k1, rfl, k3, k4⟩
    · omega
    · have hw := h.wk hE (Nd.twin_refl t)
      refine ⟨rfl, ⟨by rw [g3.k, k3.k, hw.1], by rw [g3.s, k3.s, hw.2.1], by rw [g3.n, k3.n, hw.2.2.1], App.tw h hE g3.app (elems_tw hw.2.2.2) k3.app⟩, g3.ok, k3.ok, ?_, g4, k4⟩
      have := g3.sz
      have := Ts.len_size X.kids
      omega



end Go.Proofs.YtnmhnaanpjlniaaGreat
/-
  Layer 4: the most general unifier, told of Apply's answers.
-/
namespace Go.Proofs.YtnmhnaanpjlniaaGreat
open Go.RowKit

/-- what is applied becomes what the term becomes -/
theorem Ap.ev {θ : Int → Tm} {σ : Sb} (hs : Sat θ σ) (hE : Ends σ) {t X : Nd} (h : Ap σ t X) : ev θ X = ev θ t := by
  have h1 := App_ev hs hE h.list
  simp only [evs, List.map_cons, List.map_nil, List.cons.injEq, and_true] at h1
  exact h1

/-- what is applied whole can be told from another -/
theorem Ap.inj {θ : Int → Tm} {σ : Sb} (hm : Mg θ σ) (hE : Ends σ) {t u X Y : Nd} (h : Ap σ t X) (h' : Ap σ u Y) (hx : nameT (.cons X.k X.s X.n X.p X.c X.kids .nil)) (hy : nameT (.cons Y.k Y.s Y.n Y.p Y.c Y.kids .nil)) (he : Go.Proofs.YtnmhnaanpjlniaaGreat.ev θ X = Go.Proofs.YtnmhnaanpjlniaaGreat.ev θ Y) : X.twin Y := by
  have fx := evs_fix hm (h.list.fix hE)
  have fy := evs_fix hm (h'.list.fix hE)
  have e1 : evs θ (.cons X.k X.s X.n X.p X.c X.kids .nil) = [Go.Proofs.YtnmhnaanpjlniaaGreat.ev θ X] := rfl
  have e2 : evs θ (.cons Y.k Y.s Y.n Y.p Y.c Y.kids .nil) = [Go.Proofs.YtnmhnaanpjlniaaGreat.ev θ Y] := rfl
  have ht := evs_inj hx hy (by rw [← fx, ← fy, e1, e2, he])
  exact ⟨ht.1, ht.2.1, ht.2.2.1, ht.2.2.2.1⟩

/-- variables have no name: of a node -/
def nameN (x : Nd) : Prop := ((x.k == 1) = true → x.s = ⟨#[]⟩ ∧ x.kids = .nil) ∧ nameT x.kids
def nameS (σ : Sb) : Prop := ∀ v x, σ v = some x → nameN x

theorem nameT_elems : ∀ {ts : Ts}, nameT ts → ∀ x ∈ elems ts, nameN x
  | .nil, _, x, hx => by cases hx
  | .cons k s n p c kids rest, h, x, hx => by
    simp only [elems, List.mem_cons] at hx
    rcases hx with rfl | hx
    · exact ⟨h.1, h.2.1⟩
    · exact nameT_elems h.2.2 x hx

theorem name_Wk {σ : Sb} (hg : nameS σ) {t r : Nd} {m : Nat} (h : Wk σ t r m) (ht : nameN t) : nameN r := by
  induction h with
  | stop => exact ht
  | go _ hb _ ih => exact ih (hg _ _ hb)

theorem App_name {σ : Sb} (hg : nameS σ) (hE : Ends σ) {l : List Nd} {us : Ts} (h : App σ l us) : (∀ t ∈ l, nameN t) → nameT us := by
  induction h with
  | nil => intro _; trivial
  | @cons t rest p c ks rs h1 h2 ih1 ih2 =>
    intro hl
    have hw := name_Wk hg (wk_spec hE t) (hl t (List.mem_cons_self ..))
    refine ⟨fun hk => ?_, ih1 (nameT_elems hw.2), ih2 fun x hx => hl x (List.mem_cons_of_mem _ hx)⟩
    obtain ⟨g1, g2⟩ := hw.1 hk
    refine ⟨g1, ?_⟩
    rw [g2] at h1
    cases h1
    rfl


end Go.Proofs.YtnmhnaanpjlniaaGreat
/-
  Layer 4: the law UnifyMost: its plain facts.
-/
namespace Go.Proofs.YtnmhnaanpjlniaaGreat
open Go.RowKit

/-- told alike, they are -/
theorem alike_is : ∀ {ts us : Ts}, alike ts us = true → Ts.twin ts us
  | .nil, .nil, _ => trivial
  | .cons k s n p c kids rest, .cons k' s' n' p' c' kids' rest', h => by
    simp only [alike, Bool.and_eq_true, beq_iff_eq] at h
    exact ⟨h.1, toList_inj h.2.1, h.2.2.1, alike_is h.2.2.2.1, alike_is h.2.2.2.2⟩
  | .nil, .cons .., h => by simp [alike] at h
  | .cons .., .nil, h => by simp [alike] at h

def sameB (x y : Nd) : Bool := headAlike x.k y.k x.s y.s x.n y.n && alike x.kids y.kids
theorem sameB_is {x y : Nd} (h : sameB x y = true) : x.twin y := by
  unfold sameB headAlike at h
  simp only [Bool.and_eq_true, beq_iff_eq] at h
  exact ⟨h.1.1, toList_inj h.1.2.1, h.1.2.2, alike_is h.2⟩


theorem boxOne {w W : World} {b : Nd} (h : W = w.alloc (.cells #[.int .u8 b.k, .string b.s, .int .i64 b.n, .slice b.p b.kids.len b.c] 25)) (hat : Ts.At w b.p b.kids) : Below w.heap.size w W ∧ Ts.At W (some ⟨w.heap.size, 0, none⟩) (.cons b.k b.s b.n b.p b.c b.kids .nil) := by
  obtain ⟨W', hW, _, hB, hc⟩ := box1 w #[.int .u8 b.k, .string b.s, .int .i64 b.n, .slice b.p b.kids.len b.c] 25
  rw [← hW] at h
  subst h
  exact ⟨hB, lies_one rfl hc (hat.below hB)⟩

theorem boxTwo {w W : World} {a b : Nd} (h : W = w.alloc (.cells #[.int .u8 a.k, .string a.s, .int .i64 a.n, .slice a.p a.kids.len a.c, .int .u8 b.k, .string b.s, .int .i64 b.n, .slice b.p b.kids.len b.c] 25)) (hata : Ts.At w a.p a.kids) (hatb : Ts.At w b.p b.kids) : Below w.heap.size w W ∧ Ts.At W (some ⟨w.heap.size, 0, none⟩) (.cons a.k a.s a.n a.p a.c a.kids (.cons b.k b.s b.n b.p b.c b.kids .nil)) := by
  obtain ⟨W', hW, _, hB, hc⟩ := box1 w #[.int .u8 a.k, .string a.s, .int .i64 a.n, .slice a.p a.kids.len a.c, .int .u8 b.k, .string b.s, .int .i64 b.n, .slice b.p b.kids.len b.c] 25
  rw [← hW] at h
  subst h
  exact ⟨hB, lies_two rfl hc (hata.below hB) (hatb.below hB)⟩

theorem Ap.len {σ : Sb} {t X : Nd} (h : Ap σ t X) : X.kids.len ≤ 1000000 := by
  have := h.sz
  have := Ts.len_size X.kids
  omega

/-- variables of good terms have no name -/
theorem headB_name {k : Int} {s : ByteArray} {n : Int} {len : Nat} (h : headB k s n len = true) (hk : (k == 1) = true) : s = ⟨#[]⟩ ∧ len = 0 := by
  have e : k = 1 := by simpa using hk
  subst e
  unfold headB at h
  simp only [if_pos, Bool.and_eq_true, beq_iff_eq, decide_eq_true_eq] at h
  obtain ⟨_, h2, h3⟩ := h
  refine ⟨?_, by omega⟩
  rw [ByteArray.toList_eq] at h2
  cases s
  simp at h2
  rw [h2]
theorem shape_name : ∀ {ts : Ts}, shapeL ts = true → nameT ts
  | .nil, _ => trivial
  | .cons k s n p c kids rest, h => by
    simp only [shapeL, Bool.and_eq_true] at h
    obtain ⟨⟨h1, h2⟩, h3⟩ := h
    refine ⟨fun hk => ?_, shape_name h1, shape_name h3⟩
    obtain ⟨g1, g2⟩ := headB_name h2 hk
    exact ⟨g1, Ts.len_zero g2⟩
theorem name_nd {a : Nd} (h : goodB 64 a.k a.s a.n a.kids = true) : nameN a := by
  have h1 : shapeL a.kids = true ∧ headB a.k a.s a.n a.kids.len = true := by
    unfold goodB at h
    simp only [Bool.and_eq_true] at h
    exact h.2
  refine ⟨fun hk => ?_, shape_name h1.1⟩
  obtain ⟨g1, g2⟩ := headB_name h1.2 hk
  exact ⟨g1, Ts.len_zero g2⟩

/-- what is bound are parts of what is unified -/
theorem all_Wk {P : Nd → Prop} {σ : Sb} (hg : ∀ v x, σ v = some x → P x) {t r : Nd} {m : Nat} (h : Wk σ t r m) (ht : P t) : P r := by
  induction h with
  | stop => exact ht
  | go _ hb _ ih => exact ih (hg _ _ hb)
theorem put_all {P : Nd → Prop} {σ : Sb} (hg : ∀ v x, σ v = some x → P x) {v : Int} {t : Nd} (ht : P t) : ∀ u x, (σ.put v t) u = some x → P x := fun u y hy => by
  by_cases e : u = v
  · subst e; rw [Sb.put_same] at hy; cases hy; exact ht
  · rw [Sb.put_other e] at hy; exact hg u y hy



/-- good, and of variables without names -/
def GN (x : Nd) : Prop := goodN x ∧ nameN x
theorem GN.kids : ∀ x, GN x → ∀ y ∈ elems x.kids, GN y := fun _ h y hy => ⟨goodT_elems h.1.2 y hy, nameT_elems h.2.2 y hy⟩
theorem twin_good : ∀ {ts us : Ts}, Ts.twin ts us → goodT ts → nameT ts → goodT us ∧ nameT us
  | .nil, .nil, _, _, _ => ⟨trivial, trivial⟩
  | .nil, .cons .., h, _, _ => h.elim
  | .cons .., .nil, h, _, _ => h.elim
  | .cons k s n p c kids rest, .cons k' s' n' p' c' kids' rest', ⟨h1, h2, h3, h4, h5⟩, hg, hn => by
    subst h1 h2 h3
    obtain ⟨a1, a2⟩ := twin_good h4 hg.2.1 hn.2.1
    obtain ⟨b1, b2⟩ := twin_good h5 hg.2.2 hn.2.2
    have hk : (k == 1) = true → kids' = .nil := fun e => by
      rw [(hg.1 e).2] at h4
      cases kids' with
      | nil => rfl
      | cons => exact h4.elim
    exact ⟨⟨fun e => ⟨(hg.1 e).1, hk e⟩, a1, b1⟩, ⟨fun e => ⟨(hn.1 e).1, hk e⟩, a2, b2⟩⟩
theorem GN.twin {x y : Nd} (h : GN x) (ht : x.twin y) : GN y := by
  have h1 : goodT (.cons x.k x.s x.n x.p x.c x.kids .nil) := ⟨h.1.1, h.1.2, trivial⟩
  have h2 : nameT (.cons x.k x.s x.n x.p x.c x.kids .nil) := ⟨h.2.1, h.2.2, trivial⟩
  obtain ⟨g1, g2⟩ := twin_good (ts := .cons x.k x.s x.n x.p x.c x.kids .nil) (us := .cons y.k y.s y.n y.p y.c y.kids .nil) ⟨ht.1, ht.2.1, ht.2.2.1, ht.2.2.2, trivial⟩ h1 h2
  exact ⟨⟨g1.1, g1.2.1⟩, ⟨g2.1, g2.2.1⟩⟩
theorem GN.tw {σ ρ : Sb} (h : STw σ ρ) (hg : ∀ v x, ρ v = some x → GN x) : ∀ v x, σ v = some x → GN x := fun v x hx => by
  obtain ⟨t, h1, h2⟩ := h.yes v x hx
  exact (hg v t h1).twin (Nd.twin_symm h2)

theorem Ap.name {σ : Sb} (hg : nameS σ) (hE : Ends σ) {t X : Nd} (h : Ap σ t X) (ht : nameN t) : nameT (.cons X.k X.s X.n X.p X.c X.kids .nil) :=
  App_name hg hE h.list (fun x hx => by simp only [List.mem_singleton] at hx; subst hx; exact ht)

/-- what is applied, of terms that become alike, is alike -/
theorem Ap.alike {θ : Int → Tm} {σ : Sb} (hm : Mg θ σ) (hE : Ends σ) (hg : nameS σ) {t u X Y : Nd} (h : Ap σ t X) (h' : Ap σ u Y) (ht : nameN t) (hu : nameN u) (he : Go.Proofs.YtnmhnaanpjlniaaGreat.ev θ t = Go.Proofs.YtnmhnaanpjlniaaGreat.ev θ u) : X.twin Y :=
  Ap.inj hm hE h h' (h.name hg hE ht) (h'.name hg hE hu) (by rw [Ap.ev hm.1 hE h, Ap.ev hm.1 hE h', he])

/-- a candidate -/
structure Cand (σ : Sb) : Prop where
  mg : ∃ θ, Mg θ σ
  ends : Ends σ
  good : ∀ v x, σ v = some x → GN x
theorem Cand.names {σ : Sb} (h : Cand σ) : nameS σ := fun v x hx => (h.good v x hx).2
theorem Cand.goods {σ : Sb} (h : Cand σ) : goodS σ := fun v x hx => (h.good v x hx).1

theorem Chain.good {l : List (Int × Nd)} (hl : ∀ e ∈ l, GN e.2) {had : List (Int × Nd)} (h : Chain l had) : ∀ v x, look had v = some x → GN x := by
  induction h with
  | nil => intro v x hx; cases hx
  | @snoc had v x _ hm h0 ih =>
    rw [look_put (bindE_zero h0)]
    exact put_all ih (hl _ hm)
theorem Chain.cand {l : List (Int × Nd)} (hl : ∀ e ∈ l, GN e.2) {had : List (Int × Nd)} (h : Chain l had) {σ : Sb} (ht : STw σ (look had)) : Cand σ := by
  obtain ⟨⟨θ, hm⟩, _, hE⟩ := h.mg (fun e he => (hl e he).1)
  exact ⟨⟨θ, hm.tw ht⟩, ht.symm.ends hE, GN.tw ht (h.good hl)⟩





end Go.Proofs.YtnmhnaanpjlniaaGreat
