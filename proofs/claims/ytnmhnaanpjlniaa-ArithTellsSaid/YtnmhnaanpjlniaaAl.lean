import Derived.Test.YtnmhnaanpjlniaaXo
import Derived.Test.YtnmhnaanpjlniaaAj
import Derived.Deep.DeepCutAuto
/-
  Layer 3: a term applied, out of a room: the walk.
-/
namespace Go.Proofs.Ytnmhnaanpjlniaa
open Go.RowKit

set_option maxRecDepth 100000 in
set_option maxHeartbeats 8000000 in
theorem applied_any (S : Nat) (σ : Sb) (m : Nat) (w0 : World) (hS : SubAt S σ m w0) {RM RB : Nat} (hRM : w0.heap.size ≤ RM) (hRB : w0.heap.size ≤ RB) (hne : RM ≠ RB) :
    ∀ (n : Nat) (t : Nd), Cnt σ (elems (wk σ t).kids) n → n ≤ 4096 → t.ok → Ts.At w0 t.p t.kids → t.kids.size ≤ 5000 → ∀ (w : World) (o rem : Nat), Below w0.heap.size w0 w → RM < w.heap.size ∧ RB < w.heap.size → n ≤ rem → rem ≤ 1000000 → Room RM RB o rem w →
    Calls Try.prog 53 #[.pointer (some ⟨S, 0, none⟩), .agg #[.int .u8 t.k, .string t.s, .int .i64 t.n, .slice t.p t.kids.len t.c], .pointer (some ⟨RM, 0, none⟩)] w fun e w' =>
      ∃ us q, e = .returned (tv (wk σ t).k (wk σ t).s (wk σ t).n q us.len us.len) ∧ Ts.AtQ (inR RB o (o + n * 4)) w' q us ∧ App σ (elems (wk σ t).kids) us ∧ us.ok ∧ (q = none → us.len = 0) ∧ Room RM RB (o + n * 4) (rem - n) w' ∧ KpA w0.heap.size RM RB w w' ∧
        (∀ y, y < o ∨ o + n * 4 ≤ y → w'.cell? ⟨RB, y, none⟩ = w.cell? ⟨RB, y, none⟩) ∧ (∀ y, w'.frozen? ⟨RB, y, none⟩ = w.frozen? ⟨RB, y, none⟩) := by
  intro n
  induction n using Nat.strongRecOn with
  | ind n ih =>
    intro t hcnt hn hok hat hsz w o rem hBw hsize hrem hrem' hroom
    obtain ⟨X, hX⟩ : ∃ X, wk σ t = X := ⟨_, rfl⟩
    obtain ⟨xk, xs, xn, xp, xc, xK⟩ := X
    obtain ⟨hwat, hwok, hwsz⟩ := hS.walked ⟨hat, hok, hsz⟩
    rw [hX] at hcnt hwat hwok hwsz
    simp only at hcnt hwat hwok hwsz
    have hlen := hcnt.len
    rw [elems_length] at hlen
    have hSl := hS.lt
    have htn := hok.2.2.1
    have HX := Lib.hid hX
    have HS := Lib.hid hS
    have BW := Lib.hid hBw
    have RO := Lib.hid hroom
    have WA := Lib.hid hwat
    have WO := Lib.hid hwok
    have HC := Lib.hid hcnt
    have IH := Lib.hid ih
    have hws := hBw.size
    clear hX hS hBw hroom hwat hwok hcnt ih hok hat
    rw [HX.out]
    simp only
    go_enter Try.func53, Try.ntmps53
    go_wp2_with fail
    obtain ⟨W0, hW0⟩ : ∃ W0, W0 = (w.alloc (.cells #[.int .u8 t.k, .string t.s, .int .i64 t.n, .slice t.p t.kids.len t.c] 25)).alloc (.cells #[.int .u8 0, .string ⟨#[]⟩, .int .i64 0, .slice none 0 0] 25) := ⟨_, rfl⟩
    rw [← hW0]
    have hB0 : Below w.heap.size w W0 := by rw [hW0]; exact below2 _ _ _
    have hX0 : BoxIs w.heap.size t W0 := by rw [hW0]; exact (BoxIs.new w t _).below ((Below.refl _ _).alloc (Nat.le_refl _) _)
    have hY0 : BoxIs (w.heap.size + 1) ⟨0, ⟨#[]⟩, 0, none, 0, .nil⟩ W0 := by
      have := BoxIs.new (w.alloc (.cells #[.int .u8 t.k, .string t.s, .int .i64 t.n, .slice t.p t.kids.len t.c] 25)) ⟨0, ⟨#[]⟩, 0, none, 0, .nil⟩ 25
      rw [World.size_alloc] at this
      rw [hW0]; exact this
    have B0 := Lib.hid hB0
    have X0 := Lib.hid hX0
    have Y0 := Lib.hid hY0
    clear hW0 hB0 hX0 hY0
    refine (walked_any S σ m W0 (HS.out.below (BW.out.trans (B0.out.mono hws))) t.k t.s t.n t.p t.kids t.c htn).mono ?_
    rintro e w1 ⟨rfl, hB1⟩
    have B1 := Lib.hid (B0.out.trans (hB1.mono B0.out.size))
    replace X0 := Lib.hid (X0.out.below hB1)
    replace Y0 := Lib.hid (Y0.out.below hB1)
    change Hid (BoxIs w.heap.size t w1) at X0
    rw [show (⟨t.k, t.s, t.n, t.p, t.c, t.kids⟩ : Nd) = t from rfl, HX.out]
    unfold Nd.val
    simp only
    have x0 := X0.out.c0
    have x1 := X0.out.c1
    have x2 := X0.out.c2
    have x3 := X0.out.c3
    have xf := X0.out.fr
    clear hB1
    obtain ⟨W1, hW1⟩ : ∃ W1, W1 = (((w1.setCell ⟨w.heap.size, 0, none⟩ (.int .u8 xk)).setCell ⟨w.heap.size, 1, none⟩ (.string xs)).setCell ⟨w.heap.size, 2, none⟩ (.int .i64 xn)).setCell ⟨w.heap.size, 3, none⟩ (.slice xp xK.len xc) := ⟨_, rfl⟩
    have hXX : BoxIs w.heap.size ⟨xk, xs, xn, xp, xc, xK⟩ W1 := by rw [hW1]; exact X0.out.put
    have hYY : BoxIs (w.heap.size + 1) ⟨0, ⟨#[]⟩, 0, none, 0, .nil⟩ W1 := by
      rw [hW1]
      refine Y0.out.of_block ?_
      rw [Below.heap_setCell _ _ _ _ (by simp), Below.heap_setCell _ _ _ _ (by simp), Below.heap_setCell _ _ _ _ (by simp), Below.heap_setCell _ _ _ _ (by simp)]
    have hBB : Below w.heap.size w W1 := by rw [hW1]; exact below_put4 B1.out (Nat.le_refl _) _ _ _ _
    have ZW := Lib.hid hW1
    have XX := Lib.hid hXX
    have YY := Lib.hid hYY
    have BB := Lib.hid hBB
    clear hW1 hXX hYY hBB B0 B1 X0 Y0
    go_upto_region 2 with fail
    rw [← ZW.out]
    clear x0 x1 x2 x3 xf ZW
    have x0 := XX.out.c0
    have x1 := XX.out.c1
    have x2 := XX.out.c2
    have x3 := XX.out.c3
    have xf := XX.out.fr
    have y0 := YY.out.c0
    have y1 := YY.out.c1
    have y2 := YY.out.c2
    have y3 := YY.out.c3
    have yf := YY.out.fr
    have KP : Hid (KpA w0.heap.size RM RB w W1) := Lib.hid ⟨BB.out.size, BB.out.mono hws, fun b hb _ _ _ => BB.out.block b hb⟩
    by_cases h0 : ((xK.len : Int) == 0) = true
    · have hk0 : xK = .nil := Ts.len_zero (by simp at h0; omega)
      have hn0 : n = 0 := by
        have := HC.out
        rw [hk0] at this
        cases this; rfl
      have K0 := Lib.hid hk0
      have N0 := Lib.hid hn0
      clear hk0 hn0
      go_wp2
      have hY' : BoxIs (w.heap.size + 1) ⟨0, ⟨#[]⟩, 0, none, 0, .nil⟩ (W1.setCell ⟨w.heap.size, 3, none⟩ (.slice none 0 0)) := YY.out.of_block (Below.heap_setCell _ _ _ _ (by simp))
      have P := hY'.put (y := ⟨xk, xs, xn, none, 0, .nil⟩)
      have p0 := P.c0
      have p1 := P.c1
      have p2 := P.c2
      have p3 := P.c3
      have hB2 : Below w.heap.size w (((((W1.setCell ⟨w.heap.size, 3, none⟩ (.slice none 0 0)).setCell ⟨w.heap.size + 1, 0, none⟩ (.int .u8 xk)).setCell ⟨w.heap.size + 1, 1, none⟩ (.string xs)).setCell ⟨w.heap.size + 1, 2, none⟩ (.int .i64 xn)).setCell ⟨w.heap.size + 1, 3, none⟩ (.slice none 0 0)) := below_put4 (BB.out.setCell (p := ⟨w.heap.size, 3, none⟩) (Nat.le_refl _) _) (Nat.le_succ _) _ _ _ _
      have hn0 := N0.out
      subst hn0
      refine bodyPost_ret (v := tv xk xs xn none 0 0) (by simp only [Ts.len] at p0 p1 p2 p3; simp [results, Try.results53, go_sem, p0, p1, p2, p3, tv]) rfl ⟨.nil, none, rfl, ⟨0, 0, .inl rfl, trivial⟩, ?_, trivial, fun _ => rfl, ?_, ⟨hB2.size, hB2.mono hws, fun b hb _ _ _ => hB2.block b hb⟩, fun y _ => World.cell?_of_block (a := ⟨RB, y, none⟩) (hB2.block RB hsize.2), fun y => World.frozen?_of_block (a := ⟨RB, y, none⟩) (hB2.block RB hsize.2)⟩
      · rw [K0.out]; exact .nil
      · simpa using RO.out.stay (hB2.block RM hsize.1) (hB2.block RB hsize.2)
    · rw [Bool.not_eq_true] at h0
      have hl0 : 0 < xK.len := by have := beq_eq_false_iff_ne.1 h0; omega
      have RO1 : Hid (Room RM RB o rem W1) := Lib.hid (RO.out.stay (BB.out.block RM hsize.1) (BB.out.block RB hsize.2))
      obtain ⟨o', r0, r2⟩ := RO1.out.rm
      have ho : o' = o := r2.resolve_left (by omega)
      rw [ho] at r0
      have r1 := RO1.out.rmf
      clear r2 ho
      obtain ⟨b, oo, hp, hlies⟩ := WA.out.atP
      have hp' := Ts.some_of hp hl0
      subst hp'
      have LI := Lib.hid hlies
      clear hp hlies
      go_upto_region 7 with fail
      go_cut [] from 29 (fun wx => Hid (AIn σ w0.heap.size RM RB o rem n xK W1 wx 0 (o + xK.len * 4) (rem - xK.len) n))
      case first =>
        have ST0 := fun (m o2 : Nat) (hm : m = rem - xK.len) (ho : m = 0 ∨ o2 = o + xK.len * 4) => AIn.start hRM hne HC.out RO1.out hrem hm ho
        have ST := Lib.hid ST0
        clear ST0
        by_cases hrl : rem = xK.len
        · subst hrl
          go_wp2_with fail
          all_goals go_meet
          all_goals exact Lib.hid (ST.out 0 o (by omega) (.inl rfl))
        · go_wp2_with fail
          all_goals go_meet
          all_goals exact Lib.hid (ST.out _ _ rfl (.inr rfl))
      case rest =>
        have hs1 := BB.out.size
        have hT1 : w.heap.size < W1.heap.size := XX.out.lt
        have hR1 : w.heap.size + 1 < W1.heap.size := YY.out.lt
        have bx : ∀ wr, KpA w0.heap.size RM RB W1 wr → BoxIs w.heap.size ⟨xk, xs, xn, some ⟨b, oo, none⟩, xc, xK⟩ wr ∧ BoxIs (w.heap.size + 1) ⟨0, ⟨#[]⟩, 0, none, 0, .nil⟩ wr ∧ ∀ x, x < w0.heap.size → wr.heap[x]? = w0.heap[x]? := fun wr kp =>
          ⟨XX.out.of_block (kp.old _ hT1 (by omega) (by omega) (fun h => h)), YY.out.of_block (kp.old _ hR1 (by omega) (by omega) (fun h => h)), fun x hx => (kp.B.block x hx).trans ((BB.out.block x (by omega)).trans (BW.out.block x hx))⟩
        have BXX := Lib.hid bx
        have hxc := (BXX.out wc hcut.out.kp).1
        have z3 := hxc.c3
        have AI0 := hcut
        clear hcut bx hxc x0 x1 x2 x3 xf y0 y1 y2 y3 yf r0 r1
        go_wp2_with fail
        clear z3
        go_loopw [37] (fun s37 wr => ∃ (j oc rem' nj : Nat), j ≤ xK.len ∧ s37 = .int .i64 j ∧ Hid (AIn σ w0.heap.size RM RB o rem n xK W1 wr j oc rem' nj)) (fun i _ => xK.len - (intOf i).toNat)
        case atStart => exact ⟨0, _, _, _, Nat.zero_le _, rfl, AI0⟩
        case round =>
          obtain ⟨j, oc, rem', nj, hj, rfl, AI⟩ := hrel
          obtain ⟨hxw, hyw, hold⟩ := BXX.out wr AI.out.kp
          have HOLD := Lib.hid hold
          have XW := Lib.hid hxw
          have YW := Lib.hid hyw
          have hws1 := AI.out.kp.size
          by_cases hlt : j < xK.len
          · obtain ⟨k, s, z, pp, cc, kids, rest, HD, EL, hatk, hbB, hsz1, hoke⟩ := Ts.elemP LI.out WO.out.2.2.2.2.2.1 hlt
            have ec := fun y => World.cell?_of_block (w := w0) (w' := wr) (a := ⟨b, y, none⟩) (hold b hbB)
            have c0 := (ec _).trans EL.c0
            have c1 := (ec _).trans EL.c1
            have c2 := (ec _).trans EL.c2
            have c3 := (ec _).trans EL.c3
            have OKE := Lib.hid hoke
            have ATK := Lib.hid EL.tat
            obtain ⟨Y, hY⟩ : ∃ Y, wk σ ⟨k, s, z, pp, cc, kids⟩ = Y := ⟨_, rfl⟩
            obtain ⟨hyat, hyok, hysz⟩ := HS.out.walked (t := ⟨k, s, z, pp, cc, kids⟩) ⟨EL.tat, hoke, by show kids.size ≤ 5000; omega⟩
            rw [hY] at hyat hyok hysz
            have hcj := AI.out.cnt
            rw [HD.out] at hcj
            simp only [elems] at hcj
            obtain ⟨a, bb, hca, hcb, hab⟩ : ∃ a bb, Cnt σ (elems Y.kids) a ∧ Cnt σ (elems rest) bb ∧ nj = a + bb + 1 := by
              cases hcj with
              | cons h h' => rw [hY] at h; exact ⟨_, _, h, h', rfl⟩
            have he1 := AI.out.e1
            have he2 := AI.out.e2
            rw [HD.out] at he2
            simp only [Ts.len] at he2
            have hlb := hcb.len
            rw [elems_length] at hlb
            have YY' := Lib.hid hY
            have YO := Lib.hid hyok
            have CA := Lib.hid hca
            have CB := Lib.hid hcb
            have hyl := Ts.len_size Y.kids
            obtain ⟨W4, hW4, hs4, hB4, hc4, hf4⟩ := alloc_new wr #[.int .u8 k, .string s, .int .i64 z, .slice pp kids.len cc] 25
            have hwr0 : w0.heap.size ≤ wr.heap.size := by omega
            have k4 : KpA w0.heap.size RM RB wr W4 := by rw [hW4]; exact (Kp.refl wr).alloc hwr0 _
            have hr4 : W4.heap[RB]? = wr.heap[RB]? := hB4.block RB (by omega)
            have K4 := Lib.hid k4
            have C4 : Hid (∀ y, W4.cell? ⟨RB, y, none⟩ = wr.cell? ⟨RB, y, none⟩) := Lib.hid fun y => World.cell?_of_block (a := ⟨RB, y, none⟩) hr4
            have F4 : Hid (∀ y, W4.frozen? ⟨RB, y, none⟩ = wr.frozen? ⟨RB, y, none⟩) := Lib.hid fun y => World.frozen?_of_block (a := ⟨RB, y, none⟩) hr4
            have RO4 : Hid (Room RM RB oc rem' W4) := Lib.hid (AI.out.room.stay (hB4.block RM (by omega)) hr4)
            have BW4 : Hid (Below w0.heap.size w0 W4) := Lib.hid (((BW.out.trans (BB.out.mono hws)).trans AI.out.kp.B).trans k4.B)
            have e3 := AI.out.e3
            have R5 : Hid (∀ w5 : World, (∀ y, y < oc ∨ oc + a * 4 ≤ y → w5.cell? ⟨RB, y, none⟩ = W4.cell? ⟨RB, y, none⟩) → (∀ y, w5.frozen? ⟨RB, y, none⟩ = W4.frozen? ⟨RB, y, none⟩) → ∀ y, o ≤ y → y < o + xK.len * 4 → (w5.cell? ⟨RB, y, none⟩).isSome ∧ w5.frozen? ⟨RB, y, none⟩ = false) := Lib.hid fun w5 h1 h2 y h3 h4 =>
              ⟨by rw [h1 y (.inl (by omega)), C4.out y]; exact AI.out.row y h3 h4, by rw [h2 y, F4.out y, AI.out.frow y]; exact RO1.out.free y h3 (by omega)⟩
            clear hold hxw hyw EL hatk hoke hyat hyok hca hcb hcj hY hc4 hf4 hB4 k4 hr4 ec
            go_wp2_with fail
            rw [← hW4]
            have Z4 := Lib.hid hW4
            clear hW4 c0 c1 c2 c3
            refine (IH.out a (by omega) ⟨k, s, z, pp, cc, kids⟩ (by rw [YY'.out]; exact CA.out) (by omega) OKE.out ATK.out (by show kids.size ≤ 5000; omega) W4 oc rem' BW4.out (by omega) (by omega) (by omega) RO4.out).mono ?_
            rintro e w5 ⟨us, q, rfl, hat5, happ, hok5, hq5, hroom5, kp5, c5, f5⟩
            rw [YY'.out] at happ ⊢
            unfold tv
            have hul : us.len = Y.kids.len := by rw [happ.len, elems_length]
            obtain ⟨⟨v0, r0⟩, g0⟩ : (∃ v, w5.cell? ⟨RB, o + j * 4, none⟩ = some v) ∧ w5.frozen? ⟨RB, o + j * 4, none⟩ = false := by
              obtain ⟨h1, h2⟩ := R5.out w5 c5 f5 (o + j * 4) (by omega) (by omega)
              exact ⟨Option.isSome_iff_exists.1 h1, h2⟩
            obtain ⟨⟨v1, r1⟩, g1⟩ : (∃ v, w5.cell? ⟨RB, o + j * 4 + 1, none⟩ = some v) ∧ w5.frozen? ⟨RB, o + j * 4 + 1, none⟩ = false := by
              obtain ⟨h1, h2⟩ := R5.out w5 c5 f5 (o + j * 4 + 1) (by omega) (by omega)
              exact ⟨Option.isSome_iff_exists.1 h1, h2⟩
            obtain ⟨⟨v2, r2⟩, g2⟩ : (∃ v, w5.cell? ⟨RB, o + j * 4 + 2, none⟩ = some v) ∧ w5.frozen? ⟨RB, o + j * 4 + 2, none⟩ = false := by
              obtain ⟨h1, h2⟩ := R5.out w5 c5 f5 (o + j * 4 + 2) (by omega) (by omega)
              exact ⟨Option.isSome_iff_exists.1 h1, h2⟩
            obtain ⟨⟨v3, r3⟩, g3⟩ : (∃ v, w5.cell? ⟨RB, o + j * 4 + 3, none⟩ = some v) ∧ w5.frozen? ⟨RB, o + j * 4 + 3, none⟩ = false := by
              obtain ⟨h1, h2⟩ := R5.out w5 c5 f5 (o + j * 4 + 3) (by omega) (by omega)
              exact ⟨Option.isSome_iff_exists.1 h1, h2⟩
            have hst := AI.out.step hRM hRB hne (by omega) hlt HD.out YY'.out YO.out CA.out CB.out hab K4.out C4.out F4.out hat5 happ hok5 hq5 (by omega) hroom5 kp5 c5 f5 (by omega)
            have ST := Lib.hid hst
            clear hst hat5 happ hok5 hq5 hroom5 kp5 c5 f5 hul
            go_wp2
            go_roundw
            case rel => exact ⟨j + 1, _, _, _, by omega, by go_num, ST⟩
            case measure => simp [intOf]; omega
          · have hjl : j = xK.len := by omega
            subst hjl
            obtain ⟨us, hl, happ, hok'⟩ := AI.out.done.made (by omega) (by have := AI.out.e3; omega)
            have hlen' : us.len = xK.len := by rw [happ.len, elems_length]
            have hdrop := Ts.drop_end (ts := xK) (j := xK.len) (by omega)
            have hcj := AI.out.cnt
            rw [hdrop] at hcj
            have hnj : nj = 0 := by cases hcj; rfl
            have he1 := AI.out.e1
            have he2 := AI.out.e2
            rw [hdrop, hnj] at he2
            simp only [Ts.len] at he2
            have hoc : oc = o + n * 4 := by omega
            have hrm : rem' = rem - n := by have := AI.out.cnt; omega
            have LU := Lib.hid hl
            have AP := Lib.hid happ
            have OKU := Lib.hid hok'
            have LE := Lib.hid hlen'
            have OC := Lib.hid hoc
            have RMM := Lib.hid hrm
            have x0 := hxw.c0
            have x1 := hxw.c1
            have x2 := hxw.c2
            have x3 := hxw.c3
            have xf := hxw.fr
            have y0 := hyw.c0
            have y1 := hyw.c1
            have y2 := hyw.c2
            have y3 := hyw.c3
            have yf := hyw.fr
            clear hl happ hok' hlen' hdrop hcj hnj he1 he2 hoc hrm hold hxw hyw
            go_wp2
            have hY' : BoxIs (w.heap.size + 1) ⟨0, ⟨#[]⟩, 0, none, 0, .nil⟩ (wr.setCell ⟨w.heap.size, 3, none⟩ (.slice (some ⟨RB, o, none⟩) xK.len xK.len)) := YW.out.of_block (Below.heap_setCell _ _ _ _ (by simp))
            have P := hY'.put (y := ⟨xk, xs, xn, some ⟨RB, o, none⟩, xK.len, xK⟩)
            have p0 := P.c0
            have p1 := P.c1
            have p2 := P.c2
            have p3 := P.c3
            have hh : ∀ x, x ≠ w.heap.size → x ≠ w.heap.size + 1 → (((((wr.setCell ⟨w.heap.size, 3, none⟩ (.slice (some ⟨RB, o, none⟩) xK.len xK.len)).setCell ⟨w.heap.size + 1, 0, none⟩ (.int .u8 xk)).setCell ⟨w.heap.size + 1, 1, none⟩ (.string xs)).setCell ⟨w.heap.size + 1, 2, none⟩ (.int .i64 xn)).setCell ⟨w.heap.size + 1, 3, none⟩ (.slice (some ⟨RB, o, none⟩) xK.len xK.len)).heap[x]? = wr.heap[x]? := fun x h1 h2 => by
              rw [Below.heap_setCell _ _ _ _ h2, Below.heap_setCell _ _ _ _ h2, Below.heap_setCell _ _ _ _ h2, Below.heap_setCell _ _ _ _ h2, Below.heap_setCell _ _ _ _ h1]
            have kpf := KP.out.trans AI.out.kp
            refine bodyPost_ret (v := tv xk xs xn (some ⟨RB, o, none⟩) xK.len xK.len) (by simp [results, Try.results53, go_sem, p0, p1, p2, p3, tv]) rfl ⟨us, some ⟨RB, o, none⟩, by rw [LE.out], ⟨RB, o, .inr rfl, ?_⟩, AP.out, OKU.out, (fun h => by cases h), ?_, ⟨?_, ?_, fun x hx h1 h2 h3 => ?_⟩, fun y hy => ?_, fun y => ?_⟩
            · rw [← OC.out]
              exact Ts.liesQ_stay (fun _ _ h => h) (fun x y hx => World.cell?_of_block (a := ⟨x, y, none⟩) (hh x (by have := hx.1; omega) (by have := hx.1; omega))) us LU.out
            · rw [← OC.out, ← RMM.out]
              exact AI.out.room.stay (hh RM (by omega) (by omega)) (hh RB (by omega) (by omega))
            · simpa using kpf.size
            · exact below_put4 (kpf.B.setCell (p := ⟨w.heap.size, 3, none⟩) hws _) (Nat.le_succ_of_le hws) _ _ _ _
            · exact (hh x (by omega) (by omega)).trans (kpf.old x hx h1 h2 h3)
            · rw [World.cell?_of_block (a := ⟨RB, y, none⟩) (hh RB (by omega) (by omega)), AI.out.out y (by rw [OC.out]; exact hy)]
              exact World.cell?_of_block (a := ⟨RB, y, none⟩) (BB.out.block RB hsize.2)
            · rw [World.frozen?_of_block (a := ⟨RB, y, none⟩) (hh RB (by omega) (by omega)), AI.out.frow y]
              exact World.frozen?_of_block (a := ⟨RB, y, none⟩) (BB.out.block RB hsize.2)

end Go.Proofs.Ytnmhnaanpjlniaa
