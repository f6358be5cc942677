import Derived.Test.YtflomdnjabgnaaaVb
import Derived.Deep.DeepCutAuto
import Derived.Test.YtflomdnjabgnaaaVe
/-
  Layer 5: lists of terms with other numbers, taken out of a room: the walk, by the name of counter. (Written by gen_ve.py.)
-/
namespace Go.Proofs.Ytflomdnjabgnaaa
open Go.RowKit

set_option maxRecDepth 100000 in
set_option maxHeartbeats 4000000 in
theorem renIn_counter {σ : Type} {step : σ → Int → Int × σ} {cnt : σ → Nat} {NB : Nat} {NI : σ → World → Prop} {NS : Nat → Prop} {B0 Bn : Nat} (N : Nm step cnt 87 NB NI NS B0 Bn) {RM RB : Nat} (hRM : B0 ≤ RM ∧ RM < Bn ∧ ¬ NS RM) (hRB : B0 ≤ RB ∧ RB < Bn ∧ ¬ NS RB) (hne : RM ≠ RB) :
    ∀ (sz : Nat) (ts : Ts), ts.size < sz → ts.size ≤ 900000 → ts.ok → ∀ (st : σ) (w : World) (p : Option Addr) (c o rem : Nat), Ts.AtP (· < B0) w p ts → ts.size ≤ rem → rem ≤ 1000000 → Room RM RB o rem w → NI st w → cnt st + ts.size ≤ 1000000 → Bn ≤ w.heap.size →
    Calls Try.prog 86 #[.slice p ts.len c, .func (.func 87) #[] #[.pointer (some ⟨NB, 0, none⟩)], .pointer (some ⟨RM, 0, none⟩)] w fun e w' =>
      ∃ us q, e = .returned (.slice q us.len us.len) ∧ Ts.AtQ (inR RB o (o + ts.size * 4)) w' q us ∧ Ts.twin us (renT step ts st).1 ∧ us.ok ∧ (q = none → us.len = 0) ∧ Room RM RB (o + ts.size * 4) (rem - ts.size) w' ∧ NI (renT step ts st).2 w' ∧ Kp B0 RM RB NS w w' ∧
        (∀ y, y < o ∨ o + ts.size * 4 ≤ y → w'.cell? ⟨RB, y, none⟩ = w.cell? ⟨RB, y, none⟩) ∧ (∀ y, w'.frozen? ⟨RB, y, none⟩ = w.frozen? ⟨RB, y, none⟩) := by
  intro sz
  induction sz with
  | zero => intro ts h; omega
  | succ sz ih =>
    intro ts hsz hbig hok st w p c o rem hat hrem hrem' hroom hni hcnt hBn
    have hls := Ts.len_size ts
    by_cases h0 : ((ts.len : Int) == 0) = true
    · obtain rfl : ts = .nil := Ts.len_zero (by simp at h0; omega)
      clear h0
      have h0 : Ts.nil.len = 0 := rfl
      have RO := Lib.hid hroom
      have NN := Lib.hid hni
      clear hroom hni
      go_enter Try.func86, Try.ntmps86
      go_wp2
      go_ret
      exact ⟨.nil, none, rfl, ⟨0, 0, .inl rfl, trivial⟩, trivial, trivial, fun _ => rfl, by simpa [Ts.size] using RO.out, NN.out, Kp.refl _, fun _ _ => rfl, fun _ => rfl⟩
    · rw [Bool.not_eq_true] at h0
      obtain ⟨b, oo, hp, hlies⟩ := hat
      have hl0 : 0 < ts.len := by have := beq_eq_false_iff_ne.1 h0; omega
      have hp' := Ts.some_of hp hl0
      have LI := Lib.hid hlies
      have OK := Lib.hid hok
      have RO := Lib.hid hroom
      have NN := Lib.hid hni
      obtain ⟨o', r0, r2⟩ := hroom.rm
      have ho : o' = o := r2.resolve_left (by omega)
      rw [ho] at r0
      have r1 := hroom.rmf
      clear r2 ho
      clear hp hlies hok hroom hni
      subst hp'
      go_enter Try.func86, Try.ntmps86
      go_upto_region 4 with fail
      go_cut [7] (fun s7 wx => s7 = .slice (some ⟨RB, o, none⟩) ts.len ts.len ∧ Hid (RIn step cnt NI NS B0 RM RB o rem ts (renT step ts st).1 (renT step ts st).2 w wx st 0 (o + ts.len * 4) (rem - ts.len)))
      case first =>
        have ST0 := fun (m o2 : Nat) (hm : m = rem - ts.len) (ho : m = 0 ∨ o2 = o + ts.len * 4) => RIn.start N hRM hRB hne RO.out NN.out hrem hcnt hm ho
        have ST := Lib.hid ST0
        clear ST0
        by_cases hrl : rem = ts.len
        · go_wp2_with fail
          all_goals go_meet
          all_goals exact ⟨rfl, Lib.hid (ST.out 0 o (by omega) (.inl rfl))⟩
        · go_wp2_with fail
          all_goals go_meet
          all_goals exact ⟨rfl, Lib.hid (ST.out _ _ rfl (.inr rfl))⟩
      case rest =>
        obtain ⟨rfl, RI0⟩ := hcut
        go_wp2_with fail
        go_loopw [31] (fun s31 wr => ∃ (j : Nat) (st' : σ) (oc rem' : Nat), j ≤ ts.len ∧ s31 = .int .i64 j ∧ Hid (RIn step cnt NI NS B0 RM RB o rem ts (renT step ts st).1 (renT step ts st).2 w wr st' j oc rem')) (fun i _ => ts.len - (intOf i).toNat)
        case atStart => exact ⟨0, st, _, _, Nat.zero_le _, rfl, RI0⟩
        case round =>
          obtain ⟨j, st', oc, rem2, hj, rfl, RI⟩ := hrel
          by_cases hlt : j < ts.len
          · have hkp := RI.out.kp
            have hws := hkp.size
            have hliesr : ts.liesP (· < B0) wr b oo := Ts.liesP_stay (fun x hx _ => hkp.B.block x hx) ts LI.out
            obtain ⟨k, s, n, pp, cc, kids, rest, HD, EL, hatk, hbB, hsz1, hoke⟩ := Ts.elemP hliesr OK.out hlt
            have OKE := Lib.hid hoke
            have hnb := hoke.2.2.1
            have hcc := hoke.2.2.2.1
            have hcn := RI.out.cnt
            have he1 := RI.out.e1
            have he2 := RI.out.e2
            have he3 := RI.out.e3
            rw [HD.out] at hcn he2
            simp only [Ts.size, Ts.len] at hcn he2
            have hlr := Ts.len_size rest
            have hNT : ¬ NS wr.heap.size := fun h => by have := N.own _ h; omega
            obtain ⟨W3, hW3, hs3, hB3, hc3, hf3⟩ := alloc_new wr #[.int .u8 k, .string s, .int .i64 n, .slice pp kids.len cc] 24
            have k3 : Kp B0 RM RB NS wr W3 := by rw [hW3]; exact (Kp.refl wr).alloc (by omega) _
            have ni3 : NI st' W3 := N.stay _ _ _ RI.out.ni (fun b hb => hB3.block b (by have := N.own b hb; omega)) (by omega)
            have c0 := EL.c0
            have c1 := EL.c1
            have c2 := EL.c2
            have c3 := EL.c3
            have t0 := hc3 0 _ rfl
            have t1 := hc3 1 _ rfl
            have t2 := hc3 2 _ rfl
            have t3 := hc3 3 _ rfl
            have g2 := hf3 2
            have g3 := hf3 3
            have NI3 := Lib.hid ni3
            have K3 := Lib.hid k3
            have R3 := Lib.hid (stays hB3)
            clear hc3 hf3 hliesr hkp hoke ni3 k3
            by_cases hk1 : (k == 1) = true
            · go_wp2_with fail
              rw [← hW3]
              have Z3 := Lib.hid hW3
              clear hW3
              refine (N.call st' W3 n NI3.out (by omega) hnb (by omega)).mono ?_
              rintro e v4 ⟨rfl, hni4, hsz4, hB4, hold4⟩
              have hblk := hold4 wr.heap.size (by omega) hNT
              replace t0 := (World.cell?_of_block (a := ⟨wr.heap.size, 0, none⟩) hblk).trans t0
              replace t1 := (World.cell?_of_block (a := ⟨wr.heap.size, 1, none⟩) hblk).trans t1
              replace t2 := (World.cell?_of_block (a := ⟨wr.heap.size, 2, none⟩) hblk).trans t2
              replace t3 := (World.cell?_of_block (a := ⟨wr.heap.size, 3, none⟩) hblk).trans t3
              replace g2 := (World.frozen?_of_block (a := ⟨wr.heap.size, 2, none⟩) hblk).trans g2
              replace g3 := (World.frozen?_of_block (a := ⟨wr.heap.size, 3, none⟩) hblk).trans g3
              obtain ⟨W4, hW4⟩ : ∃ W4, W4 = v4.setCell ⟨wr.heap.size, 2, none⟩ (.int .i64 (step st' n).1) := ⟨_, rfl⟩
              have hb4 : ∀ b, b ≠ wr.heap.size → W4.heap[b]? = v4.heap[b]? := fun b h => by rw [hW4]; exact Below.heap_setCell _ _ _ _ (by simpa using h)
              have hsz4' : W4.heap.size = v4.heap.size := by rw [hW4]; simp
              have hB4' : Below B0 wr W4 := by rw [hW4]; exact (K3.out.B.trans hB4).setCell (p := ⟨wr.heap.size, 2, none⟩) (by show B0 ≤ wr.heap.size; omega) _
              have hrb : W4.heap[RB]? = wr.heap[RB]? := (hb4 RB (by omega)).trans ((hold4 RB (by omega) hRB.2.2).trans (hB3.block RB (by omega)))
              have hrm : W4.heap[RM]? = wr.heap[RM]? := (hb4 RM (by omega)).trans ((hold4 RM (by omega) hRM.2.2).trans (hB3.block RM (by omega)))
              have C4 : Hid (∀ y, W4.cell? ⟨RB, y, none⟩ = wr.cell? ⟨RB, y, none⟩) := Lib.hid fun y => World.cell?_of_block (a := ⟨RB, y, none⟩) hrb
              have F4 : Hid (∀ y, W4.frozen? ⟨RB, y, none⟩ = wr.frozen? ⟨RB, y, none⟩) := Lib.hid fun y => World.frozen?_of_block (a := ⟨RB, y, none⟩) hrb
              have RO4 : Hid (Room RM RB oc rem2 W4) := Lib.hid (by
                obtain ⟨⟨o', q1, q2⟩, q3, q4, q5⟩ := RI.out.room
                exact ⟨⟨o', (World.cell?_of_block (a := ⟨RM, 0, none⟩) hrm).trans q1, q2⟩, (World.frozen?_of_block (a := ⟨RM, 0, none⟩) hrm).trans q3, fun y h1 h2 => by rw [C4.out y]; exact q4 y h1 h2, fun y h1 h2 => (F4.out y).trans (q5 y h1 h2)⟩)
              have K4 : Hid (Kp B0 RM RB NS wr W4) := Lib.hid ⟨by omega, hB4', fun b hb h1 h2 h3 => (hb4 b (by omega)).trans ((hold4 b (by omega) h3).trans (hB3.block b hb))⟩
              have NI4 : Hid (NI (step st' n).2 W4) := Lib.hid (N.stay _ _ _ hni4 (fun b hb => hb4 b (by have := N.own b hb; omega)) (by omega))
              have hT4 : wr.heap.size < W4.heap.size := by omega
              have ATK : Hid (Ts.AtP (· < B0) W4 pp kids) := Lib.hid (hatk.stay fun b hb _ => hB4'.block b hb)
              have hg1 := N.grow st' n
              have hft := N.fits st' W3 n NI3.out hnb (by omega)
              have s0 : W4.cell? ⟨wr.heap.size, 0, none⟩ = some (.int .u8 k) := by rw [hW4, World.cell?_setCell_other _ _ _ _ (by simp)]; exact t0
              have s1 : W4.cell? ⟨wr.heap.size, 1, none⟩ = some (.string s) := by rw [hW4, World.cell?_setCell_other _ _ _ _ (by simp)]; exact t1
              have s2 : W4.cell? ⟨wr.heap.size, 2, none⟩ = some (.int .i64 (step st' n).1) := by rw [hW4]; exact World.cell?_setCell_same _ _ _ t2
              have s3 : W4.cell? ⟨wr.heap.size, 3, none⟩ = some (.slice pp kids.len cc) := by rw [hW4, World.cell?_setCell_other _ _ _ _ (by simp)]; exact t3
              have z3 : W4.frozen? ⟨wr.heap.size, 3, none⟩ = false := by rw [hW4, World.frozen?_setCell]; exact g3
              have S0 := Lib.hid s0
              have S1 := Lib.hid s1
              have S2 := Lib.hid s2
              have S3 := Lib.hid s3
              have G3 := Lib.hid z3
              have W4E := Lib.hid hW4
              clear hW4 s0 s1 s2 s3 z3 hb4 hrb hrm hB4 hB4' hold4 hni4 hatk c0 c1 c2 c3 hblk
              go_wp2_with fail
              rw [← W4E.out]
              clear t0 t1 t2 t3 g2 g3
              have t0 := S0.out
              have t1 := S1.out
              have t2 := S2.out
              have t3 := S3.out
              have g3 := G3.out
              refine (ih kids (by omega) (by omega) OKE.out.2.2.2.2.2.1 (step st' n).2 W4 pp cc oc rem2 ATK.out (by omega) (by omega) RO4.out NI4.out (by omega) (by omega)).mono ?_
              rintro e w5 ⟨us, q, rfl, hat5, htw5, hok5, hq5, hroom5, hni5, hk5, hc5, hf5⟩
              have hk5s := hk5.size
              have t0' := (hk5.cell (b := wr.heap.size) (by omega) (by omega) (by omega) hNT 0).trans t0
              have t1' := (hk5.cell (b := wr.heap.size) (by omega) (by omega) (by omega) hNT 1).trans t1
              have t2' := (hk5.cell (b := wr.heap.size) (by omega) (by omega) (by omega) hNT 2).trans t2
              have t3' := (hk5.cell (b := wr.heap.size) (by omega) (by omega) (by omega) hNT 3).trans t3
              have g3' := (hk5.frozen (b := wr.heap.size) (by omega) (by omega) (by omega) hNT 3).trans g3
              have hrow5 : ∀ y, o ≤ y → y < o + ts.len * 4 → (w5.cell? ⟨RB, y, none⟩).isSome := fun y h1 h2 => by
                rw [hc5 y (.inl (by omega)), C4.out y]; exact RI.out.row y h1 h2
              obtain ⟨u0, e0⟩ := Option.isSome_iff_exists.1 (hrow5 (o + j * 4) (by omega) (by omega))
              obtain ⟨u1, e1⟩ := Option.isSome_iff_exists.1 (hrow5 (o + j * 4 + 1) (by omega) (by omega))
              obtain ⟨u2, e2⟩ := Option.isSome_iff_exists.1 (hrow5 (o + j * 4 + 2) (by omega) (by omega))
              obtain ⟨u3, e3⟩ := Option.isSome_iff_exists.1 (hrow5 (o + j * 4 + 3) (by omega) (by omega))
              have hfr5 : ∀ y, o ≤ y → y < o + ts.len * 4 → w5.frozen? ⟨RB, y, none⟩ = false := fun y h1 h2 => by
                rw [hf5, F4.out, RI.out.frow]; exact RO.out.free y h1 (by omega)
              have f0 := hfr5 (o + j * 4) (by omega) (by omega)
              have f1 := hfr5 (o + j * 4 + 1) (by omega) (by omega)
              have f2 := hfr5 (o + j * 4 + 2) (by omega) (by omega)
              have f3 := hfr5 (o + j * 4 + 3) (by omega) (by omega)
              have X := Lib.hid (RI.out.step N hRM hRB hne hBn hlt HD.out OKE.out.1 OKE.out.2.1 (by rw [if_pos hk1]) hft K4.out hT4 C4.out F4.out hat5 htw5 hok5 hq5 hroom5 hni5 hk5 hc5 hf5 rfl (by omega) (by omega))
              have hneq : ¬ wr.heap.size = RB := by omega
              have hneq' : ¬ RB = wr.heap.size := by omega
              clear t0 t1 t2 t3 g3 hat5 htw5 hok5 hq5 hroom5 hni5 hk5 hc5 hf5 hrow5 hfr5
              go_wp2
              go_roundw
              case rel => exact ⟨j + 1, _, _, _, by omega, by go_num, X⟩
              case measure => simp [intOf]; omega
            · rw [Bool.not_eq_true] at hk1
              go_wp2_with fail
              obtain ⟨W4, hW4⟩ : ∃ W4, W4 = W3 := ⟨_, rfl⟩
              rw [← hW3, ← hW4]
              have hB4' : Below B0 wr W4 := by rw [hW4]; exact K3.out.B
              have hrb : W4.heap[RB]? = wr.heap[RB]? := by rw [hW4]; exact hB3.block RB (by omega)
              have hrm : W4.heap[RM]? = wr.heap[RM]? := by rw [hW4]; exact hB3.block RM (by omega)
              have C4 : Hid (∀ y, W4.cell? ⟨RB, y, none⟩ = wr.cell? ⟨RB, y, none⟩) := Lib.hid fun y => World.cell?_of_block (a := ⟨RB, y, none⟩) hrb
              have F4 : Hid (∀ y, W4.frozen? ⟨RB, y, none⟩ = wr.frozen? ⟨RB, y, none⟩) := Lib.hid fun y => World.frozen?_of_block (a := ⟨RB, y, none⟩) hrb
              have RO4 : Hid (Room RM RB oc rem2 W4) := Lib.hid (by
                obtain ⟨⟨o', q1, q2⟩, q3, q4, q5⟩ := RI.out.room
                exact ⟨⟨o', (World.cell?_of_block (a := ⟨RM, 0, none⟩) hrm).trans q1, q2⟩, (World.frozen?_of_block (a := ⟨RM, 0, none⟩) hrm).trans q3, fun y h1 h2 => by rw [C4.out y]; exact q4 y h1 h2, fun y h1 h2 => (F4.out y).trans (q5 y h1 h2)⟩)
              have K4 : Hid (Kp B0 RM RB NS wr W4) := Lib.hid (by rw [hW4]; exact K3.out)
              have NI4 : Hid (NI st' W4) := Lib.hid (by rw [hW4]; exact NI3.out)
              have hT4 : wr.heap.size < W4.heap.size := by rw [hW4]; omega
              have ATK : Hid (Ts.AtP (· < B0) W4 pp kids) := Lib.hid (hatk.stay fun b hb _ => hB4'.block b hb)
              rw [← hW4] at t0 t1 t2 t3 g2 g3
              have W4E := Lib.hid hW4
              have Z3 := Lib.hid hW3
              clear hW4 hW3 hrb hrm hB4' hatk c0 c1 c2 c3
              refine (ih kids (by omega) (by omega) OKE.out.2.2.2.2.2.1 st' W4 pp cc oc rem2 ATK.out (by omega) (by omega) RO4.out NI4.out (by omega) (by omega)).mono ?_
              rintro e w5 ⟨us, q, rfl, hat5, htw5, hok5, hq5, hroom5, hni5, hk5, hc5, hf5⟩
              have hk5s := hk5.size
              have t0' := (hk5.cell (b := wr.heap.size) (by omega) (by omega) (by omega) hNT 0).trans t0
              have t1' := (hk5.cell (b := wr.heap.size) (by omega) (by omega) (by omega) hNT 1).trans t1
              have t2' := (hk5.cell (b := wr.heap.size) (by omega) (by omega) (by omega) hNT 2).trans t2
              have t3' := (hk5.cell (b := wr.heap.size) (by omega) (by omega) (by omega) hNT 3).trans t3
              have g3' := (hk5.frozen (b := wr.heap.size) (by omega) (by omega) (by omega) hNT 3).trans g3
              have hrow5 : ∀ y, o ≤ y → y < o + ts.len * 4 → (w5.cell? ⟨RB, y, none⟩).isSome := fun y h1 h2 => by
                rw [hc5 y (.inl (by omega)), C4.out y]; exact RI.out.row y h1 h2
              obtain ⟨u0, e0⟩ := Option.isSome_iff_exists.1 (hrow5 (o + j * 4) (by omega) (by omega))
              obtain ⟨u1, e1⟩ := Option.isSome_iff_exists.1 (hrow5 (o + j * 4 + 1) (by omega) (by omega))
              obtain ⟨u2, e2⟩ := Option.isSome_iff_exists.1 (hrow5 (o + j * 4 + 2) (by omega) (by omega))
              obtain ⟨u3, e3⟩ := Option.isSome_iff_exists.1 (hrow5 (o + j * 4 + 3) (by omega) (by omega))
              have hfr5 : ∀ y, o ≤ y → y < o + ts.len * 4 → w5.frozen? ⟨RB, y, none⟩ = false := fun y h1 h2 => by
                rw [hf5, F4.out, RI.out.frow]; exact RO.out.free y h1 (by omega)
              have f0 := hfr5 (o + j * 4) (by omega) (by omega)
              have f1 := hfr5 (o + j * 4 + 1) (by omega) (by omega)
              have f2 := hfr5 (o + j * 4 + 2) (by omega) (by omega)
              have f3 := hfr5 (o + j * 4 + 3) (by omega) (by omega)
              have X := Lib.hid (RI.out.step N hRM hRB hne hBn hlt HD.out OKE.out.1 OKE.out.2.1 (by rw [if_neg (by rw [hk1]; simp)]) hnb K4.out hT4 C4.out F4.out hat5 htw5 hok5 hq5 hroom5 hni5 hk5 hc5 hf5 rfl (by omega) (by omega))
              have hneq : ¬ wr.heap.size = RB := by omega
              have hneq' : ¬ RB = wr.heap.size := by omega
              clear t0 t1 t2 t3 g3 hat5 htw5 hok5 hq5 hroom5 hni5 hk5 hc5 hf5 hrow5 hfr5
              go_wp2
              go_roundw
              case rel => exact ⟨j + 1, _, _, _, by omega, by go_num, X⟩
              case measure => simp [intOf]; omega
          · have hjl : j = ts.len := by omega
            have hnil := Ts.drop_end hlt
            have hrs := RI.out.rest
            have he2 := RI.out.e2
            have he1 := RI.out.e1
            rw [hnil] at hrs he2
            simp only [renT, Ts.size, Ts.len] at hrs he2
            have hfin : st' = (renT step ts st).2 := congrArg Prod.snd hrs
            have hoc : oc = o + ts.size * 4 := by omega
            have hrm2 : rem2 = rem - ts.size := by omega
            have hdn := RI.out.done
            rw [show j = (renT step ts st).1.len from by rw [renT_len]; exact hjl] at hdn
            obtain ⟨us, hl, htw, hok'⟩ := hdn.made (by omega) (by rw [renT_len]; omega)
            have hlu : us.len = ts.len := (Ts.twin_len _ _ htw).trans (renT_len step ts st)
            rw [hoc] at hl
            have X := Lib.hid RI.out
            rw [hoc, hrm2, hfin] at X
            have HL := Lib.hid hlu
            have L := Lib.hid hl
            have TW := Lib.hid htw
            clear hl htw hlu hdn hrs he2 he1 hnil hfin hoc hrm2 hjl RI
            go_wp2
            go_ret
            exact ⟨us, some ⟨RB, o, none⟩, by rw [HL.out]; rfl, ⟨RB, o, .inr rfl, L.out⟩, TW.out, hok', (fun h => by cases h), X.out.room, X.out.ni, X.out.kp, X.out.out, X.out.frow⟩
end Go.Proofs.Ytflomdnjabgnaaa
/-
  Layer 5: renamed, by each of the two names. (Written by gen_vg.py.)
-/
namespace Go.Proofs.Ytflomdnjabgnaaa
open Go.RowKit

set_option maxRecDepth 100000 in
set_option maxHeartbeats 1000000 in
theorem renamed_shift {σ : Type} {step : σ → Int → Int × σ} {cnt : σ → Nat} {NB : Nat} {NI : σ → World → Prop} {NS : Nat → Prop} {B0 : Nat} (ts : Ts) (hbig : ts.size ≤ 900000) (hok : ts.ok) (st : σ) (w : World) (N : Nm step cnt 75 NB NI NS B0 w.heap.size) (p : Option Addr) (c : Nat)
    (hat : Ts.AtP (· < B0) w p ts) (hB0 : B0 ≤ w.heap.size) (hni : NI st w) (hcnt : cnt st + ts.size ≤ 1000000) :
    Calls Try.prog 73 #[.slice p ts.len c, .func (.func 75) #[] #[.pointer (some ⟨NB, 0, none⟩)]] w fun e w' =>
      ∃ us q, e = .returned (.slice q us.len us.len) ∧ Ts.AtB w.heap.size w' q us ∧ Ts.twin us (renT step ts st).1 ∧ us.ok ∧ (q = none → us.len = 0) ∧ NI (renT step ts st).2 w' ∧ w.heap.size ≤ w'.heap.size ∧ Below B0 w w' ∧ (∀ b, b < w.heap.size → ¬ NS b → w'.heap[b]? = w.heap[b]?) := by
  have hls := Ts.len_size ts
  have hatL : Ts.At w p ts := by
    have h6 : ∀ (us : Ts) {y z : Nat}, us.liesP (· < B0) w y z → us.lies w y z := by
      intro us
      induction us with
      | nil => intro _ _ _; trivial
      | cons k s n p c kids rest ih1 ih2 =>
        intro y z ⟨_, g1, g2, g3, g4, ⟨b2, o2, g5, g6⟩, g7⟩
        exact ⟨g1, g2, g3, g4, ⟨b2, o2, g5, ih1 g6⟩, ih2 g7⟩
    obtain ⟨b, o, h1, h2⟩ := hat
    exact ⟨b, o, h1, h6 ts h2⟩
  have OK := Lib.hid hok
  have AT := Lib.hid hat
  have ATL := Lib.hid hatL
  have NI0 := Lib.hid hni
  have hmk := make_terms ts.size (by omega)
  clear hok hat hatL hni
  go_enter Try.func73, Try.ntmps73
  go_wp2_with fail
  refine (rnodes_any _ ts (Nat.lt_succ_self _) (by omega) OK.out w p c ATL.out).mono ?_
  rintro e w1 ⟨rfl, hB1⟩
  have hs1 := hB1.size
  go_wp2_with fail
  clear hmk
  obtain ⟨W2, hW2, hs2, hB2, hc2, hf2⟩ := alloc_new w1 (zeroCells ts.size) 24
  rw [← hW2]
  obtain ⟨W3, hW3, hs3, hB3, hc3, hf3⟩ := alloc_new W2 #[Value.slice (some { block := w1.heap.size, off := 0 }) ts.size ts.size] 22
  rw [← hW3]
  have hroom : Room (w1.heap.size + 1) w1.heap.size 0 ts.size W3 := by
    refine ⟨⟨0, by rw [← hs2]; exact hc3 0 _ rfl, .inr rfl⟩, by rw [← hs2]; exact hf3 0, fun y _ h2 => ?_, fun y _ h2 => ?_⟩
    · rw [(stays hB3).1 _ _ (by omega), hc2 y _ (Array.getElem?_eq_getElem (by rw [size_zeroCells]; omega))]; rfl
    · rw [(stays hB3).2 _ _ (by omega)]; exact hf2 y
  have hB13 : Below w.heap.size w W3 := (hB1.trans (hB2.mono hs1)).trans (hB3.mono (by omega))
  have hat3 := AT.out.stay (w' := W3) fun b hb _ => hB13.block b (by omega)
  have hni3 : NI st W3 := N.stay _ _ _ NI0.out (fun b hb => hB13.block b (N.own b hb)) (by omega)
  have hNS1 : ¬ NS (w1.heap.size + 1) := fun h => by have := N.own _ h; omega
  have hNS0 : ¬ NS w1.heap.size := fun h => by have := N.own _ h; omega
  refine (renIn_shift (N.mono (Bn' := W3.heap.size) (by omega)) (RM := w1.heap.size + 1) (RB := w1.heap.size) ⟨by omega, by omega, hNS1⟩ ⟨by omega, by omega, hNS0⟩ (by omega) _ ts (Nat.lt_succ_self _) hbig OK.out st W3 p c 0 ts.size hat3 (Nat.le_refl _) (by omega) hroom hni3 hcnt (Nat.le_refl _)).mono ?_
  rintro e w4 ⟨us, q, rfl, hat4, htw4, hok4, hq4, _, hni4, hk4, _, _⟩
  have A4 := Lib.hid (hat4.atB (B := w.heap.size) fun b y hb => by have := hb.1; omega)
  have T4 := Lib.hid htw4
  have O4 := Lib.hid hok4
  have N4 := Lib.hid hni4
  have K4 := Lib.hid hk4
  have B13 := Lib.hid hB13
  have Z2 := Lib.hid hW2
  have Z3 := Lib.hid hW3
  clear hat4 htw4 hok4 hni4 hk4 hB13 hroom hat3 hni3 hW2 hW3 hc2 hf2 hc3 hf3
  go_wp2
  go_ret
  have hks := K4.out.size
  exact ⟨us, q, rfl, A4.out, T4.out, O4.out, hq4, N4.out, by omega, (B13.out.mono hB0).trans K4.out.B, fun b hb hns => (K4.out.old b (by omega) (by omega) (by omega) hns).trans (B13.out.block b hb)⟩

set_option maxRecDepth 100000 in
set_option maxHeartbeats 1000000 in
theorem renamed_counter {σ : Type} {step : σ → Int → Int × σ} {cnt : σ → Nat} {NB : Nat} {NI : σ → World → Prop} {NS : Nat → Prop} {B0 : Nat} (ts : Ts) (hbig : ts.size ≤ 900000) (hok : ts.ok) (st : σ) (w : World) (N : Nm step cnt 87 NB NI NS B0 w.heap.size) (p : Option Addr) (c : Nat)
    (hat : Ts.AtP (· < B0) w p ts) (hB0 : B0 ≤ w.heap.size) (hni : NI st w) (hcnt : cnt st + ts.size ≤ 1000000) :
    Calls Try.prog 73 #[.slice p ts.len c, .func (.func 87) #[] #[.pointer (some ⟨NB, 0, none⟩)]] w fun e w' =>
      ∃ us q, e = .returned (.slice q us.len us.len) ∧ Ts.AtB w.heap.size w' q us ∧ Ts.twin us (renT step ts st).1 ∧ us.ok ∧ (q = none → us.len = 0) ∧ NI (renT step ts st).2 w' ∧ w.heap.size ≤ w'.heap.size ∧ Below B0 w w' ∧ (∀ b, b < w.heap.size → ¬ NS b → w'.heap[b]? = w.heap[b]?) := by
  have hls := Ts.len_size ts
  have hatL : Ts.At w p ts := by
    have h6 : ∀ (us : Ts) {y z : Nat}, us.liesP (· < B0) w y z → us.lies w y z := by
      intro us
      induction us with
      | nil => intro _ _ _; trivial
      | cons k s n p c kids rest ih1 ih2 =>
        intro y z ⟨_, g1, g2, g3, g4, ⟨b2, o2, g5, g6⟩, g7⟩
        exact ⟨g1, g2, g3, g4, ⟨b2, o2, g5, ih1 g6⟩, ih2 g7⟩
    obtain ⟨b, o, h1, h2⟩ := hat
    exact ⟨b, o, h1, h6 ts h2⟩
  have OK := Lib.hid hok
  have AT := Lib.hid hat
  have ATL := Lib.hid hatL
  have NI0 := Lib.hid hni
  have hmk := make_terms ts.size (by omega)
  clear hok hat hatL hni
  go_enter Try.func73, Try.ntmps73
  go_wp2_with fail
  refine (rnodes_any _ ts (Nat.lt_succ_self _) (by omega) OK.out w p c ATL.out).mono ?_
  rintro e w1 ⟨rfl, hB1⟩
  have hs1 := hB1.size
  go_wp2_with fail
  clear hmk
  obtain ⟨W2, hW2, hs2, hB2, hc2, hf2⟩ := alloc_new w1 (zeroCells ts.size) 24
  rw [← hW2]
  obtain ⟨W3, hW3, hs3, hB3, hc3, hf3⟩ := alloc_new W2 #[Value.slice (some { block := w1.heap.size, off := 0 }) ts.size ts.size] 22
  rw [← hW3]
  have hroom : Room (w1.heap.size + 1) w1.heap.size 0 ts.size W3 := by
    refine ⟨⟨0, by rw [← hs2]; exact hc3 0 _ rfl, .inr rfl⟩, by rw [← hs2]; exact hf3 0, fun y _ h2 => ?_, fun y _ h2 => ?_⟩
    · rw [(stays hB3).1 _ _ (by omega), hc2 y _ (Array.getElem?_eq_getElem (by rw [size_zeroCells]; omega))]; rfl
    · rw [(stays hB3).2 _ _ (by omega)]; exact hf2 y
  have hB13 : Below w.heap.size w W3 := (hB1.trans (hB2.mono hs1)).trans (hB3.mono (by omega))
  have hat3 := AT.out.stay (w' := W3) fun b hb _ => hB13.block b (by omega)
  have hni3 : NI st W3 := N.stay _ _ _ NI0.out (fun b hb => hB13.block b (N.own b hb)) (by omega)
  have hNS1 : ¬ NS (w1.heap.size + 1) := fun h => by have := N.own _ h; omega
  have hNS0 : ¬ NS w1.heap.size := fun h => by have := N.own _ h; omega
  refine (renIn_counter (N.mono (Bn' := W3.heap.size) (by omega)) (RM := w1.heap.size + 1) (RB := w1.heap.size) ⟨by omega, by omega, hNS1⟩ ⟨by omega, by omega, hNS0⟩ (by omega) _ ts (Nat.lt_succ_self _) hbig OK.out st W3 p c 0 ts.size hat3 (Nat.le_refl _) (by omega) hroom hni3 hcnt (Nat.le_refl _)).mono ?_
  rintro e w4 ⟨us, q, rfl, hat4, htw4, hok4, hq4, _, hni4, hk4, _, _⟩
  have A4 := Lib.hid (hat4.atB (B := w.heap.size) fun b y hb => by have := hb.1; omega)
  have T4 := Lib.hid htw4
  have O4 := Lib.hid hok4
  have N4 := Lib.hid hni4
  have K4 := Lib.hid hk4
  have B13 := Lib.hid hB13
  have Z2 := Lib.hid hW2
  have Z3 := Lib.hid hW3
  clear hat4 htw4 hok4 hni4 hk4 hB13 hroom hat3 hni3 hW2 hW3 hc2 hf2 hc3 hf3
  go_wp2
  go_ret
  have hks := K4.out.size
  exact ⟨us, q, rfl, A4.out, T4.out, O4.out, hq4, N4.out, by omega, (B13.out.mono hB0).trans K4.out.B, fun b hb hns => (K4.out.old b (by omega) (by omega) (by omega) hns).trans (B13.out.block b hb)⟩

end Go.Proofs.Ytflomdnjabgnaaa
/-
  Layer 5: Shift.
-/
namespace Go.Proofs.Ytflomdnjabgnaaa
open Go.RowKit

def stepS (m : Int) : Unit → Int → Int × Unit := fun _ n => (wrap64 (n + m), ())

theorem nm_shift (m : Int) (NB B0 Bn : Nat) (h : NB < Bn) : Nm (stepS m) (fun _ => 0) 75 NB (fun _ W => W.cell? ⟨NB, 0, none⟩ = some (.int .i64 m)) (fun b => b = NB) B0 Bn where
  own := fun b hb => by rw [hb]; exact h
  stay := fun _ W W' hc hk _ => (World.cell?_of_block (a := ⟨NB, 0, none⟩) (hk NB rfl)).trans hc
  grow := fun _ _ => by omega
  fits := fun _ _ n _ _ _ => i64_of_wf (wrap64_wf (n + m))
  call := fun _ W n hc _ _ _ => (shift1_any n m NB W hc).mono fun e w' ⟨he, hw⟩ => by
    subst hw
    exact ⟨he, hc, Nat.le_refl _, Below.refl _ _, fun _ _ _ => rfl⟩

/-- a number of a term, shifted if the term is a variable -/
def shV (m k n : Int) : Int := if (k == 1) = true then wrap64 (n + m) else n

set_option maxRecDepth 100000 in
set_option maxHeartbeats 1000000 in
theorem shift_any (ts : Ts) (m : Int) (hbig : ts.size ≤ 800000) (k : Int) (s : ByteArray) (n : Int) (w : World) (p : Option Addr) (c : Nat) (hok : Ts.ok (.cons k s n p c ts .nil)) (hat : Ts.At w p ts) :
    Calls Try.prog 42 #[.agg #[.int .u8 k, .string s, .int .i64 n, .slice p ts.len c], .int .i64 m] w fun e w' =>
      ∃ us q d, e = .returned (tv k s (shV m k n) q us.len d) ∧ Ts.AtB w.heap.size w' q us ∧ Ts.twin us (renT (stepS m) ts ()).1 ∧ Ts.ok (.cons k s (shV m k n) q d us .nil) ∧ Below w.heap.size w w' := by
  have OK := Lib.hid hok
  have AT := Lib.hid hat
  clear hok hat
  go_enter Try.func42, Try.ntmps42
  have hon := (OK.out).2.2.1
  go_wp2_with fail
  obtain ⟨W1, hW1, hs1, hB1, hc1, hf1⟩ := alloc_new w #[Value.int IntKind.u8 k, Value.string s, Value.int IntKind.i64 n, Value.slice p ts.len c] 24
  rw [← hW1]
  obtain ⟨W2, hW2, hs2, hB2, hc2, hf2⟩ := alloc_new W1 #[Value.int IntKind.i64 m] 2
  rw [← hW2]
  obtain ⟨W3, hW3, hs3, hB3, hc3, hf3⟩ := alloc_new W2 #[Value.int IntKind.u8 0, Value.string { data := #[] }, Value.int IntKind.i64 0, Value.slice none 0 0] 24
  rw [← hW3]
  obtain ⟨W4, hW4, hs4, hB4, hc4, hf4⟩ := alloc_new W3 #[Value.int IntKind.u8 k, Value.string s, Value.int IntKind.i64 n, Value.slice p ts.len c] 24
  rw [← hW4]
  have e1 : w.heap.size + 1 = W1.heap.size := hs1.symm
  have e2 : w.heap.size + 1 + 1 = W2.heap.size := by omega
  have e3 : w.heap.size + 1 + 1 + 1 = W3.heap.size := by omega
  have hB14 : Below w.heap.size w W4 := ((hB1.trans (hB2.mono (by omega))).trans (hB3.mono (by omega))).trans (hB4.mono (by omega))
  have hl4 : Ts.At W4 (some ⟨W3.heap.size, 0, none⟩) (.cons k s n p c ts .nil) := lies_one rfl hc4 (AT.out.below hB14)
  have hnb : W4.cell? ⟨w.heap.size + 1, 0, none⟩ = some (.int .i64 m) := by
    rw [e1]
    exact ((stays hB4).1 _ _ (by omega)).trans (((stays hB3).1 _ _ (by omega)).trans (hc2 0 _ rfl))
  have hres : ∀ i u, (#[Value.int IntKind.u8 0, Value.string { data := #[] }, Value.int IntKind.i64 0, Value.slice none 0 0] : Array Value)[i]? = some u → W4.cell? ⟨w.heap.size + 1 + 1, i, none⟩ = some u := fun i u h => by
    rw [e2]
    exact ((stays hB4).1 _ _ (by omega)).trans (hc3 i u h)
  have hrf : ∀ i, W4.frozen? ⟨w.heap.size + 1 + 1, i, none⟩ = false := fun i => by
    rw [e2]
    exact ((stays hB4).2 _ _ (by omega)).trans (hf3 i)
  have Z := Lib.hid (And.intro hW1 (And.intro hW2 (And.intro hW3 hW4)))
  have BW := Lib.hid hB14
  have RES := Lib.hid hres
  have RF := Lib.hid hrf
  rw [e3]
  clear hW1 hW2 hW3 hW4 hc1 hc2 hc3 hc4 hf1 hf2 hf3 hf4 hB1 hB2 hB3 hB4 hB14 hres hrf
  refine (renamed_shift (.cons k s n p c ts .nil) (by simp [Ts.size]; omega) OK.out () W4 (nm_shift m (w.heap.size + 1) W4.heap.size W4.heap.size (by omega)) _ 1 hl4.atP (Nat.le_refl _) hnb (by simp [Ts.size]; omega)).mono ?_
  rintro e w5 ⟨us, q, rfl, hat5, htw5, hok5, hq5, _, hsz5, hB5, hold5⟩
  cases us with
  | nil => exact htw5.elim
  | cons k' s' n' q' c' us' r' =>
    simp only [renT] at htw5
    obtain ⟨rfl, rfl, hn', h1, h2⟩ := htw5
    obtain rfl : r' = .nil := Ts.len_zero (Ts.twin_len _ _ h2)
    have hn2 : n' = shV m k' n := by rw [hn']; unfold shV stepS; split <;> rfl
    have h3 : Ts.twin us' (renT (stepS m) ts ()).1 := by
      have : (if (k' == 1) = true then stepS m () n else (n, ())).2 = () := rfl
      exact h1
    obtain ⟨b, o, hp5, hb5, c0, c1, c2, c3, hk5, _⟩ := hat5
    obtain rfl : q = some ⟨b, o, none⟩ := by rcases hp5 with h | h; cases h; exact h
    have hbox : ∀ i, w5.cell? ⟨w.heap.size + 1 + 1, i, none⟩ = W4.cell? ⟨w.heap.size + 1 + 1, i, none⟩ := fun i => World.cell?_of_block (a := ⟨w.heap.size + 1 + 1, i, none⟩) (hold5 (w.heap.size + 1 + 1) (by omega) (by omega))
    have hboxf : ∀ i, w5.frozen? ⟨w.heap.size + 1 + 1, i, none⟩ = false := fun i => (World.frozen?_of_block (a := ⟨w.heap.size + 1 + 1, i, none⟩) (hold5 (w.heap.size + 1 + 1) (by omega) (by omega))).trans (RF.out i)
    have r0 := (hbox 0).trans (RES.out 0 _ rfl)
    have r1 := (hbox 1).trans (RES.out 1 _ rfl)
    have r2 := (hbox 2).trans (RES.out 2 _ rfl)
    have r3 := (hbox 3).trans (RES.out 3 _ rfl)
    have f0 := hboxf 0
    have f1 := hboxf 1
    have f2 := hboxf 2
    have f3 := hboxf 3
    have B5 : Hid (Below w.heap.size w w5) := Lib.hid (BW.out.trans (hB5.mono BW.out.size))
    have KA := Lib.hid hk5
    have TW := Lib.hid h3
    have N2 := Lib.hid hn2
    have OK5 := Lib.hid hok5
    clear hbox hboxf hB5 hk5 h1 h2 h3 hn2 hn' hok5 hold5 hp5 hl4 hnb
    clear e1 e2 e3
    simp only [Ts.len]
    go_wp2
    refine bodyPost_ret (v := tv k' s' n' q' us'.len c') (by simp [results, Try.results42, go_sem, r0, r1, r2, r3, tv]) rfl ⟨us', q', c', by rw [N2.out], ?_, TW.out, ?_, ?_⟩
    · obtain ⟨bb, ob, h1, h2⟩ := KA.out
      have KB : Ts.AtB W4.heap.size w5 q' us' := ⟨bb, ob, h1, h2⟩
      refine KB.stay (by omega) fun b y hb hlt => ?_
      have hne : b ≠ w.heap.size + 1 + 1 := by omega
      simp [go_sem, hne, Ne.symm hne]
    · rw [← N2.out]; exact OK5.out
    · repeat (first | exact B5.out | refine Below.setCell (p := ⟨w.heap.size + 1 + 1, _, none⟩) ?_ (by simp; omega) _)
end Go.Proofs.Ytflomdnjabgnaaa
