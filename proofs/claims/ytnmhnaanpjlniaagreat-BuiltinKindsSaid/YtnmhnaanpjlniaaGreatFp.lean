import Derived.Test.YtnmhnaanpjlniaaGreatFn
import Derived.Test.YtnmhnaanpjlniaaGreatAw
import Derived.Test.YtnmhnaanpjlniaaGreatFf
import Derived.Test.YtnmhnaanpjlniaaGreatXa
import Derived.Test.YtnmhnaanpjlniaaGreatEe
/-
  Layer 14's bad and deep. (Written by gen_fp.py.)
-/
namespace Go.Proofs.YtnmhnaanpjlniaaGreat
open Go.RowKit

noncomputable def gdB (x : Nd) : Bool := goodB 64 x.k x.s x.n x.kids
noncomputable def badL : List (Int × Nd) → Nat
  | [] => 0
  | e :: l => (if gdB e.2 = true then 0 else 1) + badL l
noncomputable def badT : Ts → Nat
  | .nil => 0
  | .cons k s n _ _ ks r => (if goodB 64 k s n ks = true then 0 else 1) + badT r

theorem badL_le : ∀ l : List (Int × Nd), badL l ≤ l.length
  | [] => Nat.le_refl _
  | e :: l => by
    have := badL_le l
    unfold badL
    simp only [List.length_cons]
    split <;> omega
theorem badT_le : ∀ ts : Ts, badT ts ≤ ts.len
  | .nil => Nat.le_refl _
  | .cons k s n p c ks r => by
    have := badT_le r
    unfold badT
    simp only [Ts.len]
    split <;> omega
theorem badL_none : ∀ {l : List (Int × Nd)}, badL l = 0 → ∀ e ∈ l, gdB e.2 = true
  | [], _, e, he => by cases he
  | x :: l, h, e, he => by
    unfold badL at h
    by_cases hx : gdB x.2 = true
    · rw [if_pos hx] at h
      rcases List.mem_cons.1 he with rfl | he
      · exact hx
      · exact badL_none (by omega) e he
    · rw [if_neg hx] at h
      omega
theorem bsTs_mem_size : ∀ {l : List (Int × Nd)} {e : Int × Nd}, e ∈ l → e.2.kids.size ≤ (bsTs l).size
  | [], e, he => by cases he
  | (u, x) :: l, e, he => by
    rcases List.mem_cons.1 he with rfl | he
    · simp only [bsTs, Ts.size]; omega
    · have := bsTs_mem_size he
      simp only [bsTs, Ts.size]; omega
theorem bsTs_mem_ok : ∀ {l : List (Int × Nd)} {e : Int × Nd}, e ∈ l → (bsTs l).ok → e.2.ok
  | [], e, he, _ => by cases he
  | (u, x) :: l, e, he, h => by
    rcases List.mem_cons.1 he with rfl | he
    · exact ⟨h.1, h.2.1, h.2.2.1, h.2.2.2.1, h.2.2.2.2.1, h.2.2.2.2.2.1, trivial⟩
    · exact bsTs_mem_ok he h.2.2.2.2.2.2

set_option maxRecDepth 100000 in
set_option maxHeartbeats 4000000 in
theorem bad_any (l : List (Int × Nd)) (g : Nd) (hl40 : l.length ≤ 40) (hbok : (bsTs l).ok) (hbs : (bsTs l).size ≤ 5000) (w : World) (lp : Option Addr) (lc : Nat) (hat : BsAt w lp l) (hok : g.ok) (hgat : Ts.At w g.p g.kids) (hgs : g.kids.size ≤ 5000) :
    Calls Tryz.prog 10 #[.slice lp l.length lc, .agg #[.int .u8 g.k, .string g.s, .int .i64 g.n, .slice g.p g.kids.len g.c]] w fun e w' => e = .returned (.int .i64 ((badL l + badT g.kids : Nat) : Int)) ∧ Below w.heap.size w w' := by
  obtain ⟨b, o, hp, hlies⟩ := hat
  have HP := Lib.hid hp
  have LI := Lib.hid hlies
  have BOK := Lib.hid hbok
  have OK := Lib.hid hok
  have hgl : g.kids.len ≤ 5000 := Nat.le_trans (Ts.len_size _) hgs
  obtain ⟨W0, hW0⟩ : ∃ W0, W0 = w.alloc (.cells #[.int .u8 g.k, .string g.s, .int .i64 g.n, .slice g.p g.kids.len g.c] 25) := ⟨_, rfl⟩
  have hB0 : Below w.heap.size w W0 := by rw [hW0]; exact (Below.refl _ _).alloc (Nat.le_refl _) _
  have XG := Lib.hid (by rw [hW0]; exact BoxIs.new w g _ : BoxIs w.heap.size g W0)
  have ATg := Lib.hid (hgat.below hB0)
  replace LI := Lib.hid (LI.out.stay (stays hB0).1)
  have BW := Lib.hid hB0
  have ZW := Lib.hid hW0
  have hz : w.heap.size < W0.heap.size := by rw [hW0]; simp
  clear hp hlies hbok hok hgat hB0 hW0
  go_enter Tryz.func10, Tryz.ntmps10
  go_wp2
  rw [← ZW.out]
  go_loopw [5, 6] (fun s5 s6 wr => ∃ j n : Nat, j ≤ l.length ∧ s6 = .int .i64 j ∧ s5 = .int .i64 n ∧ Hid (n + badL (l.drop j) = badL l) ∧ Hid (Below W0.heap.size W0 wr)) (fun _ i _ => l.length - (intOf i).toNat)
  case atStart => exact ⟨0, 0, by omega, rfl, rfl, Lib.hid (Nat.zero_add _), Lib.hid (Below.refl _ _)⟩
  case round =>
    obtain ⟨j, n, hj, rfl, rfl, NL, BB⟩ := hrel
    have hnl : n ≤ 40 := by have := NL.out; have := badL_le l; omega
    by_cases hlt : j < l.length
    · have hpp : lp = some ⟨b, o, none⟩ := by
        rcases HP.out with h | h
        · rw [h] at hlt; simp at hlt
        · exact h
      subst hpp
      obtain ⟨⟨u, x⟩, hux⟩ : ∃ ux, l[j]? = some ux := ⟨_, List.getElem?_eq_getElem hlt⟩
      have EL := Lib.hid ((LI.out.stay (stays BB.out).1).get hux)
      have hmem := List.mem_of_getElem? hux
      have OX := Lib.hid (bsTs_mem_ok hmem BOK.out)
      have hxs : x.kids.size ≤ 5000 := Nat.le_trans (bsTs_mem_size hmem) hbs
      have hdr : badL (l.drop j) = (if gdB x = true then 0 else 1) + badL (l.drop (j + 1)) := by
        have h := List.getElem?_eq_some_iff.1 hux
        rw [List.drop_eq_getElem_cons hlt, h.2]
        rfl
      have DR := Lib.hid hdr
      clear hdr hux hmem
      have c1 := EL.out.c1
      have c2 := EL.out.c2
      have c3 := EL.out.c3
      have c4 := EL.out.c4
      obtain ⟨gx, hgx⟩ : ∃ gx, gx = gdB x := ⟨_, rfl⟩
      have GX := Lib.hid hgx
      go_wp2_with fail
      refine (rGood_any x.kids (by omega) OX.out.2.2.2.2.2.1 x.k x.s x.n wr x.p x.c OX.out.2.1 EL.out.at_).mono ?_
      rintro e w1 ⟨rfl, hI⟩
      rw [show goodB 64 x.k x.s x.n x.kids = gx from hgx.symm]
      have B1 := Lib.hid (BB.out.trans (hI.mono BB.out.size))
      clear hI hgx c1 c2 c3 c4
      cases gx with
      | true =>
        have NL' : Hid (n + badL (l.drop (j + 1)) = badL l) := Lib.hid (by rw [← NL.out, DR.out, ← GX.out, if_pos rfl]; omega)
        go_wp2
        go_roundw
        case rel => exact ⟨j + 1, n, by omega, by go_num, rfl, NL', B1⟩
        case measure => simp [intOf]; omega
      | false =>
        have NL' : Hid (n + 1 + badL (l.drop (j + 1)) = badL l) := Lib.hid (by rw [← NL.out, DR.out, ← GX.out, if_neg (by simp)]; omega)
        go_wp2
        go_roundw
        case rel => exact ⟨j + 1, n + 1, by omega, by go_num, by go_num, NL', B1⟩
        case measure => simp [intOf]; omega
    · have NE : Hid (n = badL l) := Lib.hid (by rw [← NL.out, List.drop_of_length_le (by omega)]; rfl)
      obtain ⟨bg, og, hpg, hlg⟩ := ATg.out
      have LG := Lib.hid hlg
      have HG := Lib.hid hpg
      clear hlg hpg NL
      have x3 := (BB.out.cell (p := ⟨w.heap.size, 3, none⟩) hz).trans XG.out.c3
      go_wp2
      clear x3
      go_loopw [5, 7] (fun s5 s7 wr2 => ∃ i m : Nat, i ≤ g.kids.len ∧ s7 = .int .i64 i ∧ s5 = .int .i64 m ∧ Hid (m + badT (g.kids.drop i) = n + badT g.kids) ∧ Hid (Below W0.heap.size W0 wr2)) (fun _ i _ => g.kids.len - (intOf i).toNat)
      case atStart => exact ⟨0, n, by omega, rfl, rfl, Lib.hid rfl, BB⟩
      case round =>
        obtain ⟨i, m, hi, rfl, rfl, NT, B2⟩ := hrel
        have hml : m ≤ 6000 := by have := NT.out; have := badT_le g.kids; omega
        have x3 := (B2.out.cell (p := ⟨w.heap.size, 3, none⟩) hz).trans XG.out.c3
        by_cases hli : i < g.kids.len
        · obtain ⟨kk, s1, nn, pp, cc, kids, rest, D, he, hz1, hO1⟩ := Ts.elem LG.out B2.out OK.out.2.2.2.2.2.1 hli
          have E := Lib.hid he
          have O1 := Lib.hid hO1
          have hpp : g.p = some ⟨bg, og, none⟩ := by
            rcases HG.out with h | h
            · rw [h] at hli; simp [Ts.len] at hli
            · exact h
          rw [hpp] at x3
          have DT : Hid (badT (g.kids.drop i) = (if goodB 64 kk s1 nn kids = true then 0 else 1) + badT (g.kids.drop (i + 1))) := Lib.hid (by
            rw [D.out, Ts.drop_succ i g.kids D.out]; rfl)
          have e0 := E.out.c0
          have e1 := E.out.c1
          have e2 := E.out.c2
          have e3 := E.out.c3
          clear he hO1 hpp
          obtain ⟨gx, hgx⟩ : ∃ gx, gx = goodB 64 kk s1 nn kids := ⟨_, rfl⟩
          have GX := Lib.hid hgx
          go_wp2_with fail
          refine (rGood_any kids (by omega) O1.out.2.2.2.2.2.1 kk s1 nn wr pp cc O1.out.2.1 E.out.tat).mono ?_
          rintro e w1 ⟨rfl, hI⟩
          rw [← hgx]
          have B1 := Lib.hid (B2.out.trans (hI.mono B2.out.size))
          clear hI hgx e0 e1 e2 e3 x3
          cases gx with
          | true =>
            have NT' : Hid (m + badT (g.kids.drop (i + 1)) = n + badT g.kids) := Lib.hid (by rw [← NT.out, DT.out, ← GX.out, if_pos rfl]; omega)
            go_wp2
            go_roundw
            case rel => exact ⟨i + 1, m, by omega, by go_num, rfl, NT', B1⟩
            case measure => simp [intOf]; omega
          | false =>
            have NT' : Hid (m + 1 + badT (g.kids.drop (i + 1)) = n + badT g.kids) := Lib.hid (by rw [← NT.out, DT.out, ← GX.out, if_neg (by simp)]; omega)
            go_wp2
            go_roundw
            case rel => exact ⟨i + 1, m + 1, by omega, by go_num, by go_num, NT', B1⟩
            case measure => simp [intOf]; omega
        · have hd : g.kids.drop i = .nil := Ts.len_zero (by rw [Ts.drop_len]; omega)
          have ME : Hid (m = badL l + badT g.kids) := Lib.hid (by
            have h := NT.out
            rw [hd, NE.out] at h
            exact h)
          clear hd NT
          go_wp2
          go_ret
          exact ⟨by rw [ME.out]; rfl, BW.out.trans (B2.out.mono BW.out.size)⟩


end Go.Proofs.YtnmhnaanpjlniaaGreat
