import Derived.Test.YtnmhnaanpjlniaaGreatAk
import Derived.Test.YtnmhnaanpjlniaaGreatAj
import Derived.Deep.DeepCutAuto
/-
  Layer 3: a term applied, out of a room: the walk.
-/
namespace Go.Proofs.YtnmhnaanpjlniaaGreat
open Go.RowKit

set_option maxRecDepth 100000 in
set_option maxHeartbeats 8000000 in
theorem applied_any (S : Nat) (σ : Sb) (m : Nat) (w0 : World) (hS : SubAt S σ m w0) {RM RB : Nat} (hRM : w0.heap.size ≤ RM) (hRB : w0.heap.size ≤ RB) (hne : RM ≠ RB) :
    ∀ (n : Nat) (t : Nd), Cnt σ (elems (wk σ t).kids) n → n ≤ 4096 → t.ok → Ts.At w0 t.p t.kids → t.kids.size ≤ 5000 → ∀ (w : World) (o rem : Nat), Below w0.heap.size w0 w → RM < w.heap.size ∧ RB < w.heap.size → n ≤ rem → rem ≤ 1000000 → Room RM RB o rem w →
    Calls Tryz.prog 64 #[.pointer (some ⟨S, 0, none⟩), .agg #[.int .u8 t.k, .string t.s, .int .i64 t.n, .slice t.p t.kids.len t.c], .pointer (some ⟨RM, 0, none⟩)] w fun e w' =>
      ∃ us q, e = .returned (tv (wk σ t).k (wk σ t).s (wk σ t).n q us.len us.len) ∧ Ts.AtQ (inR RB o (o + n * 4)) w' q us ∧ App σ (elems (wk σ t).kids) us ∧ us.ok ∧ (q = none → us.len = 0) ∧ Room RM RB (o + n * 4) (rem - n) w' ∧ KpA w0.heap.size RM RB w w' ∧
        (∀ y, y < o ∨ o + n * 4 ≤ y → w'.cell? ⟨RB, y, none⟩ = w.cell? ⟨RB, y, none⟩) ∧ (∀ y, w'.frozen? ⟨RB, y, none⟩ = w.frozen? ⟨RB, y, none⟩) := by
  intro n
  induction n using Nat.strongRecOn with
  | ind n ih =>
    intro t hcnt hn hok hat hsz w o rem hBw hsize hrem hrem' hroom
    obtain ⟨X, hX⟩ : ∃ X, wk σ t = X := ⟨_, rfl⟩
    obtain ⟨xk, xs, xn, xp, xc, xK⟩ := X
    obtain ⟨hwat, hwok, hwsz⟩ := hS.walked ⟨hat, hok, hsz⟩
    rw [hX] at hcnt hwat hwok hwsz
    simp only at hcnt hwat hwok hwsz
    have hlen := hcnt.len
    rw [elems_length] at hlen
    have hSl := hS.lt
    have htn := hok.2.2.1
    have HX := Lib.hid hX
    have HS := Lib.hid hS
    have BW := Lib.hid hBw
    have RO := Lib.hid hroom
    have WA := Lib.hid hwat
    have WO := Lib.hid hwok
    have HC := Lib.hid hcnt
    have IH := Lib.hid ih
    have hws := hBw.size
    clear hX hS hBw hroom hwat hwok hcnt ih hok hat
    rw [HX.out]
    simp only
    go_enter Tryz.func64, Tryz.ntmps64
    go_wp2_with fail
    obtain ⟨W0, hW0⟩ : ∃ W0, W0 = (w.alloc (.cells #[.int .u8 t.k, .string t.s, .int .i64 t.n, .slice t.p t.kids.len t.c] 25)).alloc (.cells #[.int .u8 0, .string ⟨#[]⟩, .int .i64 0, .slice none 0 0] 25) := ⟨_, rfl⟩
    rw [← hW0]
    have hB0 : Below w.heap.size w W0 := by rw [hW0]; exact below2 _ _ _
    have hX0 : BoxIs w.heap.size t W0 := by rw [hW0]; exact (BoxIs.new w t _).below ((Below.refl _ _).alloc (Nat.le_refl _) _)
    have hY0 : BoxIs (w.heap.size + 1) ⟨0, ⟨#[]⟩, 0, none, 0, .nil⟩ W0 := by
      have := BoxIs.new (w.alloc (.cells #[.int .u8 t.k, .string t.s, .int .i64 t.n, .slice t.p t.kids.len t.c] 25)) ⟨0, ⟨#[]⟩, 0, none, 0, .nil⟩ 25
      rw [World.size_alloc] at this
      rw [hW0]; exact this
    have B0 := Lib.hid hB0
    have X0 := Lib.hid hX0
    have Y0 := Lib.hid hY0
    clear hW0 hB0 hX0 hY0
    refine (walked_any S σ m W0 (HS.out.below (BW.out.trans (B0.out.mono hws))) t.k t.s t.n t.p t.kids t.c htn).mono ?_
    rintro e w1 ⟨rfl, hB1⟩
    have B1 := Lib.hid (B0.out.trans (hB1.mono B0.out.size))
    replace X0 := Lib.hid (X0.out.below hB1)
    replace Y0 := Lib.hid (Y0.out.below hB1)
    change Hid (BoxIs w.heap.size t w1) at X0
    rw [show (⟨t.k, t.s, t.n, t.p, t.c, t.kids⟩ : Nd) = t from rfl, HX.out]
    unfold Nd.val
    simp only
    have x0 := X0.out.c0
    have x1 := X0.out.c1
    have x2 := X0.out.c2
    have x3 := X0.out.c3
    have xf := X0.out.fr
    clear hB1
    obtain ⟨W1, hW1⟩ : ∃ W1, W1 = (((w1.setCell ⟨w.heap.size, 0, none⟩ (.int .u8 xk)).setCell ⟨w.heap.size, 1, none⟩ (.string xs)).setCell ⟨w.heap.size, 2, none⟩ (.int .i64 xn)).setCell ⟨w.heap.size, 3, none⟩ (.slice xp xK.len xc) := ⟨_, rfl⟩
    have hXX : BoxIs w.heap.size ⟨xk, xs, xn, xp, xc, xK⟩ W1 := by rw [hW1]; exact X0.out.put
    have hYY : BoxIs (w.heap.size + 1) ⟨0, ⟨#[]⟩, 0, none, 0, .nil⟩ W1 := by
      rw [hW1]
      refine Y0.out.of_block ?_
      rw [Below.heap_setCell _ _ _ _ (by simp), Below.heap_setCell _ _ _ _ (by simp), Below.heap_setCell _ _ _ _ (by simp), Below.heap_setCell _ _ _ _ (by simp)]
    have hBB : Below w.heap.size w W1 := by rw [hW1]; exact below_put4 B1.out (Nat.le_refl _) _ _ _ _
    have ZW := Lib.hid hW1
    have XX := Lib.hid hXX
    have YY := Lib.hid hYY
    have BB := Lib.hid hBB
    clear hW1 hXX hYY hBB B0 B1 X0 Y0
    go_upto_region 2 with fail
    rw [← ZW.out]
    clear x0 x1 x2 x3 xf ZW
    have x0 := XX.out.c0
    have x1 := XX.out.c1
    have x2 := XX.out.c2
    have x3 := XX.out.c3
    have xf := XX.out.fr
    have y0 := YY.out.c0
    have y1 := YY.out.c1
    have y2 := YY.out.c2
    have y3 := YY.out.c3
    have yf := YY.out.fr
    have KP : Hid (KpA w0.heap.size RM RB w W1) := Lib.hid ⟨BB.out.size, BB.out.mono hws, fun b hb _ _ _ => BB.out.block b hb⟩
    by_cases h0 : ((xK.len : Int) == 0) = true
    · have hk0 : xK = .nil := Ts.len_zero (by simp at h0; omega)
      have hn0 : n = 0 := by
        have := HC.out
        rw [hk0] at this
        cases this; rfl
      have K0 := Lib.hid hk0
      have N0 := Lib.hid hn0
      clear hk0 hn0
      go_wp2
      have hY' : BoxIs (w.heap.size + 1) ⟨0, ⟨#[]⟩, 0, none, 0, .nil⟩ (W1.setCell ⟨w.heap.size, 3, none⟩ (.slice none 0 0)) := YY.out.of_block (Below.heap_setCell _ _ _ _ (by simp))
      have P := hY'.put (y := ⟨xk, xs, xn, none, 0, .nil⟩)
      have p0 := P.c0
      have p1 := P.c1
      have p2 := P.c2
      have p3 := P.c3
      have hB2 : Below w.heap.size w (((((W1.setCell ⟨w.heap.size, 3, none⟩ (.slice none 0 0)).setCell ⟨w.heap.size + 1, 0, none⟩ (.int .u8 xk)).setCell ⟨w.heap.size + 1, 1, none⟩ (.string xs)).setCell ⟨w.heap.size + 1, 2, none⟩ (.int .i64 xn)).setCell ⟨w.heap.size + 1, 3, none⟩ (.slice none 0 0)) := below_put4 (BB.out.setCell (p := ⟨w.heap.size, 3, none⟩) (Nat.le_refl _) _) (Nat.le_succ _) _ _ _ _
      have hn0 := N0.out
      subst hn0
      refine bodyPost_ret (v := tv xk xs xn none 0 0) (by simp only [Ts.len] at p0 p1 p2 p3; simp [results, Tryz.results64, go_sem, p0, p1, p2, p3, tv]) rfl ⟨.nil, none, rfl, ⟨0, 0, .inl rfl, trivial⟩, ?_, trivial, fun _ => rfl, ?_, ⟨hB2.size, hB2.mono hws, fun b hb _ _ _ => hB2.block b hb⟩, fun y _ => World.cell?_of_block (a := ⟨RB, y, none⟩) (hB2.block RB hsize.2), fun y => World.frozen?_of_block (a := ⟨RB, y, none⟩) (hB2.block RB hsize.2)⟩
      · rw [K0.out]; exact .nil
      · simpa using RO.out.stay (hB2.block RM hsize.1) (hB2.block RB hsize.2)
    · rw [Bool.not_eq_true] at h0
      have hl0 : 0 < xK.len := by have := beq_eq_false_iff_ne.1 h0; omega
      have RO1 : Hid (Room RM RB o rem W1) := Lib.hid (RO.out.stay (BB.out.block RM hsize.1) (BB.out.block RB hsize.2))
      obtain ⟨o', r0, r2⟩ := RO1.out.rm
      have ho : o' = o := r2.resolve_left (by omega)
      rw [ho] at r0
      have r1 := RO1.out.rmf
      clear r2 ho
      obtain ⟨b, oo, hp, hlies⟩ := WA.out.atP
      have hp' := Ts.some_of hp hl0
      subst hp'
      have LI := Lib.hid hlies
      clear hp hlies
      go_upto_region 7 with fail
      go_cut [] from 29 (fun wx => Hid (AIn σ w0.heap.size RM RB o rem n xK W1 wx 0 (o + xK.len * 4) (rem - xK.len) n))
      case first =>
        have ST0 := fun (m o2 : Nat) (hm : m = rem - xK.len) (ho : m = 0 ∨ o2 = o + xK.len * 4) => AIn.start hRM hne HC.out RO1.out hrem hm ho
        have ST := Lib.hid ST0
        clear ST0
        by_cases hrl : rem = xK.len
        · subst hrl
          go_wp2_with fail
          all_goals go_meet
          all_goals exact Lib.hid (ST.out 0 o (by omega) (.inl rfl))
        · go_wp2_with fail
          all_goals go_meet
          all_goals exact Lib.hid (ST.out _ _ rfl (.inr rfl))
      case rest =>
        have hs1 := BB.out.size
        have hT1 : w.heap.size < W1.heap.size := XX.out.lt
        have hR1 : w.heap.size + 1 < W1.heap.size := YY.out.lt
        have bx : ∀ wr, KpA w0.heap.size RM RB W1 wr → BoxIs w.heap.size ⟨xk, xs, xn, some ⟨b, oo, none⟩, xc, xK⟩ wr ∧ BoxIs (w.heap.size + 1) ⟨0, ⟨#[]⟩, 0, none, 0, .nil⟩ wr ∧ ∀ x, x < w0.heap.size → wr.heap[x]? = w0.heap[x]? := fun wr kp =>
          ⟨XX.out.of_block (kp.old _ hT1 (by omega) (by omega) (fun h => h)), YY.out.of_block (kp.old _ hR1 (by omega) (by omega) (fun h => h)), fun x hx => (kp.B.block x hx).trans ((BB.out.block x (by omega)).trans (BW.out.block x hx))⟩
        have BXX := Lib.hid bx
        have hxc := (BXX.out wc hcut.out.kp).1
        have z3 := hxc.c3
        have AI0 := hcut
        clear hcut bx hxc x0 x1 x2 x3 xf y0 y1 y2 y3 yf r0 r1
        go_wp2_with fail
        clear z3
        go_loopw [37] (fun s37 wr => ∃ (j oc rem' nj : Nat), j ≤ xK.len ∧ s37 = .int .i64 j ∧ Hid (AIn σ w0.heap.size RM RB o rem n xK W1 wr j oc rem' nj)) (fun i _ => xK.len - (intOf i).toNat)
        case atStart => exact ⟨0, _, _, _, Nat.zero_le _, rfl, AI0⟩
        case round =>
          obtain ⟨j, oc, rem', nj, hj, rfl, AI⟩ := hrel
          obtain ⟨hxw, hyw, hold⟩ := BXX.out wr AI.out.kp
          have HOLD := Lib.hid hold
          have XW := Lib.hid hxw
          have YW := Lib.hid hyw
          have hws1 := AI.out.kp.size
          by_cases hlt : j < xK.len
          · obtain ⟨k, s, z, pp, cc, kids, rest, HD, EL, hatk, hbB, hsz1, hoke⟩ := Ts.elemP LI.out WO.out.2.2.2.2.2.1 hlt
            have ec := fun y => World.cell?_of_block (w := w0) (w' := wr) (a := ⟨b, y, none⟩) (hold b hbB)
            have c0 := (ec _).trans EL.c0
            have c1 := (ec _).trans EL.c1
            have c2 := (ec _).trans EL.c2
            have c3 := (ec _).trans EL.c3
            have OKE := Lib.hid hoke
            have ATK := Lib.hid EL.tat
            obtain ⟨Y, hY⟩ : ∃ Y, wk σ ⟨k, s, z, pp, cc, kids⟩ = Y := ⟨_, rfl⟩
            obtain ⟨hyat, hyok, hysz⟩ := HS.out.walked (t := ⟨k, s, z, pp, cc, kids⟩) ⟨EL.tat, hoke, by show kids.size ≤ 5000; omega⟩
            rw [hY] at hyat hyok hysz
            have hcj := AI.out.cnt
            rw [HD.out] at hcj
            simp only [elems] at hcj
            obtain ⟨a, bb, hca, hcb, hab⟩ : ∃ a bb, Cnt σ (elems Y.kids) a ∧ Cnt σ (elems rest) bb ∧ nj = a + bb + 1 := by
              cases hcj with
              | cons h h' => rw [hY] at h; exact ⟨_, _, h, h', rfl⟩
            have he1 := AI.out.e1
            have he2 := AI.out.e2
            rw [HD.out] at he2
            simp only [Ts.len] at he2
            have hlb := hcb.len
            rw [elems_length] at hlb
            have YY' := Lib.hid hY
            have YO := Lib.hid hyok
            have CA := Lib.hid hca
            have CB := Lib.hid hcb
            have hyl := Ts.len_size Y.kids
            obtain ⟨W4, hW4, hs4, hB4, hc4, hf4⟩ := alloc_new wr #[.int .u8 k, .string s, .int .i64 z, .slice pp kids.len cc] 25
            have hwr0 : w0.heap.size ≤ wr.heap.size := by omega
            have k4 : KpA w0.heap.size RM RB wr W4 := by rw [hW4]; exact (Kp.refl wr).alloc hwr0 _
            have hr4 : W4.heap[RB]? = wr.heap[RB]? := hB4.block RB (by omega)
            have K4 := Lib.hid k4
            have C4 : Hid (∀ y, W4.cell? ⟨RB, y, none⟩ = wr.cell? ⟨RB, y, none⟩) := Lib.hid fun y => World.cell?_of_block (a := ⟨RB, y, none⟩) hr4
            have F4 : Hid (∀ y, W4.frozen? ⟨RB, y, none⟩ = wr.frozen? ⟨RB, y, none⟩) := Lib.hid fun y => World.frozen?_of_block (a := ⟨RB, y, none⟩) hr4
            have RO4 : Hid (Room RM RB oc rem' W4) := Lib.hid (AI.out.room.stay (hB4.block RM (by omega)) hr4)
            have BW4 : Hid (Below w0.heap.size w0 W4) := Lib.hid (((BW.out.trans (BB.out.mono hws)).trans AI.out.kp.B).trans k4.B)
            have e3 := AI.out.e3
            have R5 : Hid (∀ w5 : World, (∀ y, y < oc ∨ oc + a * 4 ≤ y → w5.cell? ⟨RB, y, none⟩ = W4.cell? ⟨RB, y, none⟩) → (∀ y, w5.frozen? ⟨RB, y, none⟩ = W4.frozen? ⟨RB, y, none⟩) → ∀ y, o ≤ y → y < o + xK.len * 4 → (w5.cell? ⟨RB, y, none⟩).isSome ∧ w5.frozen? ⟨RB, y, none⟩ = false) := Lib.hid fun w5 h1 h2 y h3 h4 =>
              ⟨by rw [h1 y (.inl (by omega)), C4.out y]; exact AI.out.row y h3 h4, by rw [h2 y, F4.out y, AI.out.frow y]; exact RO1.out.free y h3 (by omega)⟩
            clear hold hxw hyw EL hatk hoke hyat hyok hca hcb hcj hY hc4 hf4 hB4 k4 hr4 ec
            go_wp2_with fail
            rw [← hW4]
            have Z4 := Lib.hid hW4
            clear hW4 c0 c1 c2 c3
            refine (IH.out a (by omega) ⟨k, s, z, pp, cc, kids⟩ (by rw [YY'.out]; exact CA.out) (by omega) OKE.out ATK.out (by show kids.size ≤ 5000; omega) W4 oc rem' BW4.out (by omega) (by omega) (by omega) RO4.out).mono ?_
            rintro e w5 ⟨us, q, rfl, hat5, happ, hok5, hq5, hroom5, kp5, c5, f5⟩
            rw [YY'.out] at happ ⊢
            unfold tv
            have hul : us.len = Y.kids.len := by rw [happ.len, elems_length]
            obtain ⟨⟨v0, r0⟩, g0⟩ : (∃ v, w5.cell? ⟨RB, o + j * 4, none⟩ = some v) ∧ w5.frozen? ⟨RB, o + j * 4, none⟩ = false := by
              obtain ⟨h1, h2⟩ := R5.out w5 c5 f5 (o + j * 4) (by omega) (by omega)
              exact ⟨Option.isSome_iff_exists.1 h1, h2⟩
            obtain ⟨⟨v1, r1⟩, g1⟩ : (∃ v, w5.cell? ⟨RB, o + j * 4 + 1, none⟩ = some v) ∧ w5.frozen? ⟨RB, o + j * 4 + 1, none⟩ = false := by
              obtain ⟨h1, h2⟩ := R5.out w5 c5 f5 (o + j * 4 + 1) (by omega) (by omega)
              exact ⟨Option.isSome_iff_exists.1 h1, h2⟩
            obtain ⟨⟨v2, r2⟩, g2⟩ : (∃ v, w5.cell? ⟨RB, o + j * 4 + 2, none⟩ = some v) ∧ w5.frozen? ⟨RB, o + j * 4 + 2, none⟩ = false := by
              obtain ⟨h1, h2⟩ := R5.out w5 c5 f5 (o + j * 4 + 2) (by omega) (by omega)
              exact ⟨Option.isSome_iff_exists.1 h1, h2⟩
            obtain ⟨⟨v3, r3⟩, g3⟩ : (∃ v, w5.cell? ⟨RB, o + j * 4 + 3, none⟩ = some v) ∧ w5.frozen? ⟨RB, o + j * 4 + 3, none⟩ = false := by
              obtain ⟨h1, h2⟩ := R5.out w5 c5 f5 (o + j * 4 + 3) (by omega) (by omega)
              exact ⟨Option.isSome_iff_exists.1 h1, h2⟩
            have hst := AI.out.step hRM hRB hne (by omega) hlt HD.out YY'.out YO.out CA.out CB.out hab K4.out C4.out F4.out hat5 happ hok5 hq5 (by omega) hroom5 kp5 c5 f5 (by omega)
            have ST := Lib.hid hst
            clear hst hat5 happ hok5 hq5 hroom5 kp5 c5 f5 hul
            go_wp2
            go_roundw
            case rel => exact ⟨j + 1, _, _, _, by omega, by go_num, ST⟩
            case measure => simp [intOf]; omega
          · have hjl : j = xK.len := by omega
            subst hjl
            obtain ⟨us, hl, happ, hok'⟩ := AI.out.done.made (by omega) (by have := AI.out.e3; omega)
            have hlen' : us.len = xK.len := by rw [happ.len, elems_length]
            have hdrop := Ts.drop_end (ts := xK) (j := xK.len) (by omega)
            have hcj := AI.out.cnt
            rw [hdrop] at hcj
            have hnj : nj = 0 := by cases hcj; rfl
            have he1 := AI.out.e1
            have he2 := AI.out.e2
            rw [hdrop, hnj] at he2
            simp only [Ts.len] at he2
            have hoc : oc = o + n * 4 := by omega
            have hrm : rem' = rem - n := by have := AI.out.cnt; omega
            have LU := Lib.hid hl
            have AP := Lib.hid happ
            have OKU := Lib.hid hok'
            have LE := Lib.hid hlen'
            have OC := Lib.hid hoc
            have RMM := Lib.hid hrm
            have x0 := hxw.c0
            have x1 := hxw.c1
            have x2 := hxw.c2
            have x3 := hxw.c3
            have xf := hxw.fr
            have y0 := hyw.c0
            have y1 := hyw.c1
            have y2 := hyw.c2
            have y3 := hyw.c3
            have yf := hyw.fr
            clear hl happ hok' hlen' hdrop hcj hnj he1 he2 hoc hrm hold hxw hyw
            go_wp2
            have hY' : BoxIs (w.heap.size + 1) ⟨0, ⟨#[]⟩, 0, none, 0, .nil⟩ (wr.setCell ⟨w.heap.size, 3, none⟩ (.slice (some ⟨RB, o, none⟩) xK.len xK.len)) := YW.out.of_block (Below.heap_setCell _ _ _ _ (by simp))
            have P := hY'.put (y := ⟨xk, xs, xn, some ⟨RB, o, none⟩, xK.len, xK⟩)
            have p0 := P.c0
            have p1 := P.c1
            have p2 := P.c2
            have p3 := P.c3
            have hh : ∀ x, x ≠ w.heap.size → x ≠ w.heap.size + 1 → (((((wr.setCell ⟨w.heap.size, 3, none⟩ (.slice (some ⟨RB, o, none⟩) xK.len xK.len)).setCell ⟨w.heap.size + 1, 0, none⟩ (.int .u8 xk)).setCell ⟨w.heap.size + 1, 1, none⟩ (.string xs)).setCell ⟨w.heap.size + 1, 2, none⟩ (.int .i64 xn)).setCell ⟨w.heap.size + 1, 3, none⟩ (.slice (some ⟨RB, o, none⟩) xK.len xK.len)).heap[x]? = wr.heap[x]? := fun x h1 h2 => by
              rw [Below.heap_setCell _ _ _ _ h2, Below.heap_setCell _ _ _ _ h2, Below.heap_setCell _ _ _ _ h2, Below.heap_setCell _ _ _ _ h2, Below.heap_setCell _ _ _ _ h1]
            have kpf := KP.out.trans AI.out.kp
            refine bodyPost_ret (v := tv xk xs xn (some ⟨RB, o, none⟩) xK.len xK.len) (by simp [results, Tryz.results64, go_sem, p0, p1, p2, p3, tv]) rfl ⟨us, some ⟨RB, o, none⟩, by rw [LE.out], ⟨RB, o, .inr rfl, ?_⟩, AP.out, OKU.out, (fun h => by cases h), ?_, ⟨?_, ?_, fun x hx h1 h2 h3 => ?_⟩, fun y hy => ?_, fun y => ?_⟩
            · rw [← OC.out]
              exact Ts.liesQ_stay (fun _ _ h => h) (fun x y hx => World.cell?_of_block (a := ⟨x, y, none⟩) (hh x (by have := hx.1; omega) (by have := hx.1; omega))) us LU.out
            · rw [← OC.out, ← RMM.out]
              exact AI.out.room.stay (hh RM (by omega) (by omega)) (hh RB (by omega) (by omega))
            · simpa using kpf.size
            · exact below_put4 (kpf.B.setCell (p := ⟨w.heap.size, 3, none⟩) hws _) (Nat.le_succ_of_le hws) _ _ _ _
            · exact (hh x (by omega) (by omega)).trans (kpf.old x hx h1 h2 h3)
            · rw [World.cell?_of_block (a := ⟨RB, y, none⟩) (hh RB (by omega) (by omega)), AI.out.out y (by rw [OC.out]; exact hy)]
              exact World.cell?_of_block (a := ⟨RB, y, none⟩) (BB.out.block RB hsize.2)
            · rw [World.frozen?_of_block (a := ⟨RB, y, none⟩) (hh RB (by omega) (by omega)), AI.out.frow y]
              exact World.frozen?_of_block (a := ⟨RB, y, none⟩) (BB.out.block RB hsize.2)

end Go.Proofs.YtnmhnaanpjlniaaGreat
/-
  Layer 3: Apply; new ones; clones; how many are bound.
-/
namespace Go.Proofs.YtnmhnaanpjlniaaGreat
open Go.RowKit
attribute [local go_sem] Oper.semAt_some

theorem num_at : ∀ (pre : List (Nat × Nd)) (i : Nat) (l : List Nd) (a : Nat) (x : Nd), pre ++ [(a, x)] <+: num i l → a = i + pre.length + 1 ∧ pre.length < l.length
  | [], i, [], a, x, h => by obtain ⟨t, h⟩ := h; cases h
  | [], i, y :: l, a, x, h => by
    obtain ⟨t, h⟩ := h
    simp only [num, List.nil_append, List.cons_append] at h
    injection h with h1 h2
    injection h1 with h3 h4
    exact ⟨by simp; omega, by simp⟩
  | b :: pre, i, [], a, x, h => by obtain ⟨t, h⟩ := h; cases h
  | b :: pre, i, y :: l, a, x, h => by
    obtain ⟨t, h⟩ := h
    simp only [num, List.cons_append] at h
    injection h with h1 h2
    obtain ⟨h3, h4⟩ := num_at pre (i + 1) l a x ⟨t, by rw [← h2]⟩
    exact ⟨by simp; omega, by simp; omega⟩

/-- what stands between two rounds -/
structure AppIn (w : World) (pre : List (Nat × Nd)) (W : World) : Prop where
  len : pre.length ≤ 4096
  rt : BoxIs (w.heap.size + 1) ⟨0, ⟨#[]⟩, 0, none, 0, .nil⟩ W
  c5 : W.cell? ⟨w.heap.size + 1 + 1, 0, none⟩ = some (.int .i64 0)
  f5 : W.frozen? ⟨w.heap.size + 1 + 1, 0, none⟩ = false
  c6 : W.cell? ⟨w.heap.size + 1 + 1 + 1, 0, none⟩ = some (.int .i64 (pre.length : Nat))
  f6 : W.frozen? ⟨w.heap.size + 1 + 1 + 1, 0, none⟩ = false
  sz : w.heap.size + 6 ≤ W.heap.size
  B : Below w.heap.size w W

theorem AppIn.of {w : World} {pre pre' : List (Nat × Nd)} {W W' : World} (h : AppIn w pre W) (hl : pre'.length ≤ 4096) (hb : ∀ b, b < w.heap.size + 6 → b ≠ w.heap.size + 1 + 1 + 1 → W'.heap[b]? = W.heap[b]?) (h6 : W'.cell? ⟨w.heap.size + 1 + 1 + 1, 0, none⟩ = some (.int .i64 (pre'.length : Nat))) (g6 : W'.frozen? ⟨w.heap.size + 1 + 1 + 1, 0, none⟩ = false) (hs : W.heap.size ≤ W'.heap.size) (hB : Below w.heap.size w W') : AppIn w pre' W' :=
  ⟨hl, h.rt.of_block (hb _ (by omega) (by omega)), (World.cell?_of_block (a := ⟨w.heap.size + 1 + 1, 0, none⟩) (hb (w.heap.size + 1 + 1) (by omega) (by omega))).trans h.c5, (World.frozen?_of_block (a := ⟨w.heap.size + 1 + 1, 0, none⟩) (hb (w.heap.size + 1 + 1) (by omega) (by omega))).trans h.f5, h6, g6, Nat.le_trans h.sz hs, hB⟩

/-- what stands when it has been left -/
structure AppEx (σ : Sb) (t : Nd) (w : World) (W : World) : Prop where
  full : (vis σ 4097 [t]).length = 4097
  rt : BoxIs (w.heap.size + 1) ⟨0, ⟨#[]⟩, 0, none, 0, .nil⟩ W
  c5 : W.cell? ⟨w.heap.size + 1 + 1, 0, none⟩ = some (.int .i64 31)
  sz : w.heap.size + 6 ≤ W.heap.size
  B : Below w.heap.size w W

/-- what a call of Apply leaves -/
def Applied (σ : Sb) (t : Nd) (B : Nat) (e : Ending) (w' : World) : Prop :=
  ((vis σ 4097 [t]).length = 4097 ∧ e = .returned (.tuple #[tv 0 ⟨#[]⟩ 0 none 0 0, .int .i64 31])) ∨
  ((vis σ 4097 [t]).length ≤ 4096 ∧ ∃ us q, e = .returned (.tuple #[tv (wk σ t).k (wk σ t).s (wk σ t).n q us.len us.len, .int .i64 0]) ∧ Ts.AtB B w' q us ∧ App σ (elems (wk σ t).kids) us ∧ us.ok ∧ (q = none → us.len = 0))

set_option maxRecDepth 100000 in
set_option maxHeartbeats 4000000 in
theorem apply_any (S : Nat) (σ : Sb) (m : Nat) (w : World) (hS : SubAt S σ m w) (t : Nd) (hok : t.ok) (hat : Ts.At w t.p t.kids) (hsz : t.kids.size ≤ 5000) :
    Calls Tryz.prog 28 #[.pointer (some ⟨S, 0, none⟩), .agg #[.int .u8 t.k, .string t.s, .int .i64 t.n, .slice t.p t.kids.len t.c]] w fun e w' => Applied σ t w.heap.size e w' ∧ Below w.heap.size w w' := by
  refine (callsIn_wide (n := 8)).1 ?_
  refine callsIn_of_wp_marks Tryz.func28 rfl trivial ?_ rfl
  simp only [Tryz.ntmps28, List.size_toArray, List.length_cons, List.length_nil, Nat.reduceAdd, Nat.reduceSub, Array.replicate_succ, Array.replicate_zero, List.push_toArray, List.append_toArray, List.nil_append, List.cons_append]
  gi_wp2_with (refine ⟨trivial, ?_⟩; gi_at_call 63; refine (visits_any _ _ trivial rfl _ _ _ _ _ _ _ _ rfl _ rfl _).mono ?_; rintro e w' ⟨rfl, rfl⟩)
  obtain ⟨W0, hW0, hs0, hB0, hc0, hc2, hc3, hc4, hc5, hf, hc1⟩ := box6 w #[.int .u8 t.k, .string t.s, .int .i64 t.n, .slice t.p t.kids.len t.c] #[.int .u8 0, .string ⟨#[]⟩, .int .i64 0, .slice none 0 0] #[.int .i64 0] #[.int .i64 0] #[.pointer (some ⟨S, 0, none⟩)] #[.int .u8 t.k, .string t.s, .int .i64 t.n, .slice t.p t.kids.len t.c] 25 25 35 3 30 25
  rw [← hW0]
  have Z := Lib.hid hW0
  clear hW0
  have hseq := visits_seq S σ m w hS t hok hat hsz (fun x => x = w.heap.size + 1 + 1 + 1) (w.heap.size + 1 + 1 + 1 + 1 + 1) (w.heap.size + 1 + 1 + 1 + 1) W0 hB0 (fun b h => ⟨by omega, by omega⟩) ⟨hc5 0 _ rfl, hc5 1 _ rfl, hc5 2 _ rfl, hc5 3 _ rfl, fun i => hf _ i (by omega) (by omega)⟩ (hc4 0 _ rfl) (by omega) (by omega)
  have hX0 : BoxIs w.heap.size t W0 := ⟨hc0 0 _ rfl, hc0 1 _ rfl, hc0 2 _ rfl, hc0 3 _ rfl, fun i => hf _ i (by omega) (by omega)⟩
  have st : AppIn w [] W0 := ⟨by simp, ⟨hc1 0 _ rfl, hc1 1 _ rfl, hc1 2 _ rfl, hc1 3 _ rfl, fun i => hf _ i (by omega) (by omega)⟩, hc2 0 _ rfl, hf _ 0 (by omega) (by omega), hc3 0 _ rfl, hf _ 0 (by omega) (by omega), by omega, hB0⟩
  have hvl := vis_length σ 4097 [t]
  have XX := Lib.hid hX0
  have HS := Lib.hid hS
  have OK := Lib.hid hok
  have AT := Lib.hid hat
  have B0 := Lib.hid hB0
  clear hc0 hc1 hc2 hc3 hc4 hc5 hf hS hok hat hX0
  refine range_law rfl (by omega) (gf := 102) (lb := #[.pointer (some ⟨w.heap.size + 1 + 1 + 1 + 1 + 1, 0, none⟩), .pointer (some ⟨w.heap.size + 1 + 1 + 1 + 1, 0, none⟩)]) rfl trivial (enters_of Tryz.func102 (by kernel_rfl) rfl) hseq
    (fun W W' row k' hg hr h => h) (fun k' hk' h => by omega) (Below.refl _ _) (fun _ => rfl)
    (fun pre W => AppIn w pre W ∧ BoxIs w.heap.size t W)
    (fun c pre W => c = .ret ∧ AppEx σ t w W) ?hI ?hIx ⟨st, XX.out⟩
    (fun x W a' => a' = { tmps := #[.pointer (some ⟨S, 0, none⟩), .agg #[.int .u8 t.k, .string t.s, .int .i64 t.n, .slice t.p t.kids.len t.c], undef, .pointer (some ⟨w.heap.size, 0, none⟩), .pointer (some ⟨w.heap.size + 1, 0, none⟩), .pointer (some ⟨w.heap.size + 1 + 1, 0, none⟩), .pointer (some ⟨w.heap.size + 1 + 1 + 1, 0, none⟩), .int .i64 (x.1 : Nat), undef, .pointer (some ⟨S, 0, none⟩), .bool false, undef, .pointer (some ⟨S, 0, none⟩), .agg #[.int .u8 t.k, .string t.s, .int .i64 t.n, .slice t.p t.kids.len t.c], .func (.func 102) #[] #[.pointer (some ⟨w.heap.size + 1 + 1 + 1 + 1 + 1, 0, none⟩), .pointer (some ⟨w.heap.size + 1 + 1 + 1 + 1, 0, none⟩)], .int .i64 (x.1 : Nat), x.2.val, undef, undef, undef, undef, undef, undef, undef, undef, undef], defers := [] })
    ?assign (fun _ _ _ _ _ h _ _ => h) ?body ?done ?stop
  case hI =>
    rintro pre W W' row ⟨h, hx⟩ hg hr
    have hsz := h.sz
    have hb := fun b (hb : b < w.heap.size + 6) => hg.block b (by omega) (fun e => by have := (hr _ e.symm).1; omega)
    exact ⟨h.of h.len (fun b h1 _ => hb b h1) ((World.cell?_of_block (a := ⟨w.heap.size + 1 + 1 + 1, 0, none⟩) (hb (w.heap.size + 1 + 1 + 1) (by omega))).trans h.c6) ((World.frozen?_of_block (a := ⟨w.heap.size + 1 + 1 + 1, 0, none⟩) (hb (w.heap.size + 1 + 1 + 1) (by omega))).trans h.f6) hg.size (h.B.grown hg (by omega) (fun r e => by have := (hr r e).1; omega)), hx.of_block (hb _ (by omega))⟩
  case hIx =>
    rintro c pre W W' row ⟨rfl, h⟩ hg hr
    have hsz := h.sz
    have hb := fun b (hb : b < w.heap.size + 6) => hg.block b (by omega) (fun e => by have := (hr _ e.symm).1; omega)
    exact ⟨rfl, h.full, h.rt.of_block (hb _ (by omega)), (World.cell?_of_block (a := ⟨w.heap.size + 1 + 1, 0, none⟩) (hb (w.heap.size + 1 + 1) (by omega))).trans h.c5, Nat.le_trans h.sz hg.size, h.B.grown hg (by omega) (fun r e => by have := (hr r e).1; omega)⟩
  case assign =>
    rintro l pre x W K ⟨h, hx⟩ hK
    obtain ⟨xi, xk, xs, xn, xp, xc, xt⟩ := x
    simp only [Nd.val] at hK ⊢
    gi_wp2
    exact hK _ _ rfl (KeepsFrom.refl _ _) ⟨Nat.le_refl _, fun k' _ _ hm => ⟨rfl, hm⟩, fun h => h⟩ ⟨h, hx⟩
  case body =>
    rintro l pre x a' W ⟨h, hx⟩ rfl hp
    obtain ⟨xi, xx⟩ := x
    obtain ⟨hi, hil⟩ := num_at _ _ _ _ _ hp
    simp only at hi ⊢
    have y0 := h.rt.c0
    have y1 := h.rt.c1
    have y2 := h.rt.c2
    have y3 := h.rt.c3
    have yf := h.rt.fr
    have h5 := h.c5
    have g5 := h.f5
    have h6 := h.c6
    have g6 := h.f6
    have hsz := h.sz
    have hpl := h.len
    have HH := Lib.hid h
    have HX := Lib.hid hx
    have HI := Lib.hid hi
    have d1 : ∀ u0 u1 u2 u3 : Value, ((((W.setCell ⟨w.heap.size + 1, 0, none⟩ u0).setCell ⟨w.heap.size + 1, 1, none⟩ u1).setCell ⟨w.heap.size + 1, 2, none⟩ u2).setCell ⟨w.heap.size + 1, 3, none⟩ u3).cell? ⟨w.heap.size + 1 + 1, 0, none⟩ = some (.int .i64 0) := fun u0 u1 u2 u3 => by
      rw [World.cell?_setCell_other _ _ _ _ (by simp), World.cell?_setCell_other _ _ _ _ (by simp), World.cell?_setCell_other _ _ _ _ (by simp), World.cell?_setCell_other _ _ _ _ (by simp)]
      exact h5
    clear hi h hx hp
    by_cases hA : 4096 < (xi : Int)
    · gi_wp2
      have hY := HH.out.rt.put (y := ⟨0, ⟨#[]⟩, 0, none, 0, .nil⟩)
      have hi := HI.out
      refine ⟨?_, rfl, by omega, ?_, ?_, by simpa using hsz, ?_⟩
      · exact ((((((KeepsOthers.setCell _ _ _).from _).trans ((KeepsOthers.setCell _ _ _).from _)).trans ((KeepsOthers.setCell _ _ _).from _)).trans ((KeepsOthers.setCell _ _ _).from _)).trans ((KeepsOthers.setCell _ _ _).from _))
      · exact hY.of_block (Below.heap_setCell _ _ _ _ (by simp))
      · exact World.cell?_setCell_same _ _ _ (d1 _ _ _ _)
      · exact (below_put4 HH.out.B (Nat.le_succ _) _ _ _ _).setCell (p := ⟨w.heap.size + 1 + 1, 0, none⟩) (by simp; omega) _
    · gi_wp2
      have hi := HI.out
      refine ⟨(KeepsOthers.setCell _ _ _).from _, ⟨by simp, fun k' _ hlt hm => ⟨Below.heap_setCell _ _ _ _ hm, hm⟩, fun h k' hk' => h k' (by simpa using hk')⟩, HH.out.of (by simp; omega) (fun b _ h2 => Below.heap_setCell _ _ _ _ h2) ?_ (by rw [World.frozen?_setCell]; exact g6) (by simp) (HH.out.B.setCell (p := ⟨w.heap.size + 1 + 1 + 1, 0, none⟩) (by simp; omega) _), HX.out.of_block (Below.heap_setCell _ _ _ _ (by simp; omega))⟩
      rw [World.cell?_setCell_same _ _ _ h6]
      simp; omega
  case done =>
    rintro D xs W hD hxs ⟨h, hx⟩ hdef
    obtain ⟨n, hn⟩ : ∃ n, n = (vis σ 4097 [t]).length := ⟨_, rfl⟩
    have hxl : xs.length = n := by rw [hxs, num_length, hn]
    have hn4 : n ≤ 4096 := by rw [← hxl]; exact h.len
    have h6 := h.c6
    rw [hxl] at h6
    have hcn : Cnt σ [t] n := by rw [hn]; exact vis_cnt _ _ (by omega)
    obtain ⟨a, hca, han⟩ : ∃ a, Cnt σ (elems (wk σ t).kids) a ∧ n = a + 1 := by
      cases hcn with
      | cons h1 h2 => cases h2; exact ⟨_, h1, by omega⟩
    have hmk := make_terms n (by omega)
    have g6 := h.f6
    have x0 := hx.c0
    have x1 := hx.c1
    have x2 := hx.c2
    have x3 := hx.c3
    have hsz' := h.sz
    have HH := Lib.hid h
    have HX := Lib.hid hx
    have HN := Lib.hid hn
    have CA := Lib.hid hca
    have HA := Lib.hid han
    have HD := Lib.hid hdef
    clear hn hxl hcn hca han h hx hxs hdef
    have hlt : w.heap.size < W.heap.size := by omega
    gi_wp2_with fail
    have W8E : ∃ W8, W8 = (W.alloc (.cells (zeroCells n) 25)).alloc (.cells #[.slice (some ⟨W.heap.size, 0, none⟩) n n] 23) ∧ W8.heap.size = W.heap.size + 2 ∧ Below W.heap.size W W8 ∧ Room (W.heap.size + 1) W.heap.size 0 n W8 := by
      obtain ⟨V, hV, sV, bV, cV, fV⟩ := alloc_new W (zeroCells n) 25
      obtain ⟨U, hU, sU, bU, cU, fU⟩ := alloc_new V #[.slice (some ⟨W.heap.size, 0, none⟩) n n] 23
      rw [sV] at cU fU
      refine ⟨U, by rw [hU, hV], by omega, bV.trans (bU.mono (by omega)), ⟨0, cU 0 _ rfl, .inr rfl⟩, fU 0, fun y _ hy => ?_, fun y _ _ => ((stays bU).2 _ _ (by omega)).trans (fV y)⟩
      rw [(stays bU).1 _ _ (by omega), cV y _ (Array.getElem?_eq_getElem (by rw [size_zeroCells]; omega))]
      rfl
    obtain ⟨W8, hW8, hs8, hB8, hR8⟩ := W8E
    rw [← hW8]
    have Z8 := Lib.hid hW8
    have B8 := Lib.hid hB8
    have R8 := Lib.hid hR8
    clear hW8 hB8 hR8 x0 x1 x2 x3 h6 g6 hmk
    refine ⟨trivial, ?_⟩
    refine ((callsIn_wide (n := 7)).2 (applied_any S σ m w HS.out (RM := W.heap.size + 1) (RB := W.heap.size) (by omega) (by omega) (by omega) a t CA.out (by have := HA.out; omega) OK.out AT.out hsz W8 0 n (HH.out.B.trans (B8.out.mono (by omega))) (by omega) (by have := HA.out; omega) (by omega) R8.out)).mono ?_
    rintro e w9 ⟨us, q, rfl, hat9, happ, hok9, hq9, -, kp9, -, -⟩
    unfold tv
    have hb9 : ∀ b, b < W.heap.size → w9.heap[b]? = W.heap[b]? := fun b hb => (kp9.old b (by omega) (by omega) (by omega) (fun h => h)).trans (B8.out.block b hb)
    have hRT := HH.out.rt.of_block (hb9 _ (by omega))
    have h5 := (World.cell?_of_block (a := ⟨w.heap.size + 1 + 1, 0, none⟩) (hb9 (w.heap.size + 1 + 1) (by omega))).trans HH.out.c5
    have g5 := (World.frozen?_of_block (a := ⟨w.heap.size + 1 + 1, 0, none⟩) (hb9 (w.heap.size + 1 + 1) (by omega))).trans HH.out.f5
    have hDl := (Array.getElem?_eq_some_iff.1 HD.out).1
    have hD9 := (hb9 D hDl).trans HD.out
    have hB9 : Below w.heap.size w w9 := (HH.out.B.trans (B8.out.mono (by omega))).trans kp9.B
    have hs9 : W8.heap.size ≤ w9.heap.size := kp9.size
    have y0 := hRT.c0
    have y1 := hRT.c1
    have y2 := hRT.c2
    have y3 := hRT.c3
    have yf := hRT.fr
    have d1 : ∀ u0 u1 u2 u3 : Value, ((((w9.setCell ⟨w.heap.size + 1, 0, none⟩ u0).setCell ⟨w.heap.size + 1, 1, none⟩ u1).setCell ⟨w.heap.size + 1, 2, none⟩ u2).setCell ⟨w.heap.size + 1, 3, none⟩ u3).cell? ⟨w.heap.size + 1 + 1, 0, none⟩ = some (.int .i64 0) := fun u0 u1 u2 u3 => by
      rw [World.cell?_setCell_other _ _ _ _ (by simp), World.cell?_setCell_other _ _ _ _ (by simp), World.cell?_setCell_other _ _ _ _ (by simp), World.cell?_setCell_other _ _ _ _ (by simp)]
      exact h5
    have RT := Lib.hid hRT
    have A9 := Lib.hid hat9
    have AP := Lib.hid happ
    have O9 := Lib.hid hok9
    have Q9 := Lib.hid hq9
    have D9 := Lib.hid hD9
    have B9 := Lib.hid hB9
    have D1 := Lib.hid d1
    clear hb9 hRT hD9 hB9 hat9 happ hok9 hq9 kp9 d1
    gi_wp2
    have P := RT.out.put (y := ⟨(wk σ t).k, (wk σ t).s, (wk σ t).n, q, us.len, us⟩)
    simp only at P
    have hh : ∀ x, x ≠ w.heap.size + 1 → x ≠ w.heap.size + 1 + 1 → (((((w9.setCell ⟨w.heap.size + 1, 0, none⟩ (.int .u8 (wk σ t).k)).setCell ⟨w.heap.size + 1, 1, none⟩ (.string (wk σ t).s)).setCell ⟨w.heap.size + 1, 2, none⟩ (.int .i64 (wk σ t).n)).setCell ⟨w.heap.size + 1, 3, none⟩ (.slice q us.len us.len)).setCell ⟨w.heap.size + 1 + 1, 0, none⟩ (.int .i64 0)).heap[x]? = w9.heap[x]? := fun x h1 h2 => by
      rw [Below.heap_setCell _ _ _ _ h2, Below.heap_setCell _ _ _ _ h1, Below.heap_setCell _ _ _ _ h1, Below.heap_setCell _ _ _ _ h1, Below.heap_setCell _ _ _ _ h1]
    have hdef' := (hh D (by omega) (by omega)).trans D9.out
    refine ⟨by simp, .inl ⟨_, _, rfl, run_takeDeferred hdef', ?_⟩⟩
    have P2 := P.of_block (Below.heap_setCell _ ⟨w.heap.size + 1 + 1, 0, none⟩ (.int .i64 0) (w.heap.size + 1) (by simp))
    have kk := fun {a : Addr} {v : Value} (hc : (((((w9.setCell ⟨w.heap.size + 1, 0, none⟩ (.int .u8 (wk σ t).k)).setCell ⟨w.heap.size + 1, 1, none⟩ (.string (wk σ t).s)).setCell ⟨w.heap.size + 1, 2, none⟩ (.int .i64 (wk σ t).n)).setCell ⟨w.heap.size + 1, 3, none⟩ (.slice q us.len us.len)).setCell ⟨w.heap.size + 1 + 1, 0, none⟩ (.int .i64 0)).cell? a = some v) => cell_kept (v := v) hc (grownBy_putObj' _ D (.deferred none)) (fun r e => by cases e; exact ⟨_, hdef', rfl⟩)
    have j0 := kk P2.c0
    have j1 := kk P2.c1
    have j2 := kk P2.c2
    have j3 := kk P2.c3
    have j5 := kk (World.cell?_setCell_same _ _ (.int .i64 0) (D1.out _ _ _ _))
    simp only at j0 j1 j2 j3
    have hBf := (below_put4 B9.out (Nat.le_succ _) (.int .u8 (wk σ t).k) (.string (wk σ t).s) (.int .i64 (wk σ t).n) (.slice q us.len us.len)).setCell (p := ⟨w.heap.size + 1 + 1, 0, none⟩) (by simp; omega) (.int .i64 0)
    have hl := HN.out
    refine ⟨.tuple #[tv (wk σ t).k (wk σ t).s (wk σ t).n q us.len us.len, .int .i64 0], by simp [results, Tryz.results28, go_sem, j0, j1, j2, j3, j5, tv], .inr ⟨by omega, us, q, rfl, ?_, AP.out, O9.out, Q9.out⟩, hBf.grown (grownBy_putObj' _ D _) (by simp; omega) (fun r e => by cases e; omega)⟩
    obtain ⟨b2, o2, hp2, hl2⟩ := A9.out
    refine ⟨b2, o2, hp2, Ts.liesQ_liesB (Q := inR W.heap.size 0 (0 + a * 4)) (fun b y hb => by have := hb.1; omega) us (Ts.liesQ_stay (fun _ _ h => h) (fun b y hb => ?_) us hl2)⟩
    have hbW := hb.1
    refine World.cell?_of_block (a := ⟨b, y, none⟩) (Eq.trans ?_ (hh b (by omega) (by omega)))
    exact (grownBy_putObj' _ D (.deferred none)).block b (by simp; omega) (by simp; omega)
  case stop =>
    rintro D c pre W hD hpre ⟨rfl, h⟩ hdef
    have k0 := h.rt.c0
    have k1 := h.rt.c1
    have k2 := h.rt.c2
    have k3 := h.rt.c3
    have HH := Lib.hid h
    have hsz := h.sz
    clear hpre h
    gi_wp2
    refine ⟨by simp, .inl ⟨_, _, rfl, run_takeDeferred hdef, ?_⟩⟩
    have kk := fun {a : Addr} {v : Value} (hc : W.cell? a = some v) => cell_kept (v := v) hc (grownBy_putObj' W D (.deferred none)) (fun r e => by cases e; exact ⟨_, hdef, rfl⟩)
    have j0 := kk k0
    have j1 := kk k1
    have j2 := kk k2
    have j3 := kk k3
    have j5 := kk HH.out.c5
    refine ⟨.tuple #[tv 0 ⟨#[]⟩ 0 none 0 0, .int .i64 31], by simp only [Ts.len] at j0 j1 j2 j3; simp [results, Tryz.results28, go_sem, j0, j1, j2, j3, j5, tv], .inl ⟨HH.out.full, rfl⟩, HH.out.B.grown (grownBy_putObj' _ D _) (by omega) (fun r e => by cases e; omega)⟩

theorem new_any (w : World) : Calls Tryz.prog 33 #[] w fun e w' => e = .returned (.pointer (some ⟨w.heap.size, 0, none⟩)) ∧ SubAt w.heap.size Sb.none 0 w' ∧ Below w.heap.size w w' := by
  go_enter Tryz.func33, Tryz.ntmps33
  go_wp2
  go_ret
  refine ⟨rfl, ⟨⟨none, 0, ?_, by omega, NodeAt.none_of (fun _ => rfl) 0, fun v hv => absurd rfl hv⟩, Ends.none, fun v x hx => by cases hx⟩, (Below.refl _ _).alloc (Nat.le_refl _) _⟩
  exact heap_alloc_new w _

set_option maxHeartbeats 1000000 in
theorem len_any (S : Nat) (σ : Sb) (m : Nat) (w : World) (hS : SubAt S σ m w) : Calls Tryz.prog 24 #[.pointer (some ⟨S, 0, none⟩)] w fun e w' => e = .returned (.int .i64 (m : Nat)) ∧ w' = w := by
  obtain ⟨p, h, hr, -, -, -⟩ := hS.cells
  have hc := (SubAt.cell0 hr).2.2.1
  clear hr hS
  go_enter Tryz.func24, Tryz.ntmps24
  go_wp2
  go_ret
  exact ⟨rfl, rfl⟩

set_option maxHeartbeats 1000000 in
theorem sbclone_any (S : Nat) (σ : Sb) (m : Nat) (w : World) (hS : SubAt S σ m w) : Calls Tryz.prog 127 #[.pointer (some ⟨S, 0, none⟩)] w fun e w' => e = .returned (.pointer (some ⟨w.heap.size, 0, none⟩)) ∧ SubAt w.heap.size σ m w' ∧ Below w.heap.size w w' := by
  obtain ⟨p, h, hr, hh, hN, hd⟩ := hS.cells
  obtain ⟨h0, h1, h2, -⟩ := SubAt.cell0 hr
  have HS := Lib.hid hS
  have NN := Lib.hid hN
  have DD := Lib.hid hd
  clear hr hS hN hd
  go_enter Tryz.func127, Tryz.ntmps127
  go_wp2
  go_ret
  have hB : Below w.heap.size w (w.alloc (.cells #[.pointer p, .int .u64 (h : Nat), .int .i64 (m : Nat)] 88)) := (Below.refl _ _).alloc (Nat.le_refl _) _
  exact ⟨rfl, ⟨⟨p, h, heap_alloc_new w _, hh, NN.out.below hB, DD.out⟩, HS.out.ends, fun v x hx => ⟨(HS.out.at_ v x hx).1.below hB, (HS.out.at_ v x hx).2⟩⟩, hB⟩

end Go.Proofs.YtnmhnaanpjlniaaGreat
