import Derived.Test.YtflomdnjabgnaaaVb
import Derived.Deep.DeepCutAuto
/-
  Layer 5: lists of terms with other numbers, taken out of a room: the walk, by the name of shift. (Written by gen_ve.py.)
-/
namespace Go.Proofs.Ytflomdnjabgnaaa
open Go.RowKit

set_option maxRecDepth 100000 in
set_option maxHeartbeats 4000000 in
theorem renIn_shift {σ : Type} {step : σ → Int → Int × σ} {cnt : σ → Nat} {NB : Nat} {NI : σ → World → Prop} {NS : Nat → Prop} {B0 Bn : Nat} (N : Nm step cnt 75 NB NI NS B0 Bn) {RM RB : Nat} (hRM : B0 ≤ RM ∧ RM < Bn ∧ ¬ NS RM) (hRB : B0 ≤ RB ∧ RB < Bn ∧ ¬ NS RB) (hne : RM ≠ RB) :
    ∀ (sz : Nat) (ts : Ts), ts.size < sz → ts.size ≤ 900000 → ts.ok → ∀ (st : σ) (w : World) (p : Option Addr) (c o rem : Nat), Ts.AtP (· < B0) w p ts → ts.size ≤ rem → rem ≤ 1000000 → Room RM RB o rem w → NI st w → cnt st + ts.size ≤ 1000000 → Bn ≤ w.heap.size →
    Calls Try.prog 86 #[.slice p ts.len c, .func (.func 75) #[] #[.pointer (some ⟨NB, 0, none⟩)], .pointer (some ⟨RM, 0, none⟩)] w fun e w' =>
      ∃ us q, e = .returned (.slice q us.len us.len) ∧ Ts.AtQ (inR RB o (o + ts.size * 4)) w' q us ∧ Ts.twin us (renT step ts st).1 ∧ us.ok ∧ (q = none → us.len = 0) ∧ Room RM RB (o + ts.size * 4) (rem - ts.size) w' ∧ NI (renT step ts st).2 w' ∧ Kp B0 RM RB NS w w' ∧
        (∀ y, y < o ∨ o + ts.size * 4 ≤ y → w'.cell? ⟨RB, y, none⟩ = w.cell? ⟨RB, y, none⟩) ∧ (∀ y, w'.frozen? ⟨RB, y, none⟩ = w.frozen? ⟨RB, y, none⟩) := by
  intro sz
  induction sz with
  | zero => intro ts h; omega
  | succ sz ih =>
    intro ts hsz hbig hok st w p c o rem hat hrem hrem' hroom hni hcnt hBn
    have hls := Ts.len_size ts
    by_cases h0 : ((ts.len : Int) == 0) = true
    · obtain rfl : ts = .nil := Ts.len_zero (by simp at h0; omega)
      clear h0
      have h0 : Ts.nil.len = 0 := rfl
      have RO := Lib.hid hroom
      have NN := Lib.hid hni
      clear hroom hni
      go_enter Try.func86, Try.ntmps86
      go_wp2
      go_ret
      exact ⟨.nil, none, rfl, ⟨0, 0, .inl rfl, trivial⟩, trivial, trivial, fun _ => rfl, by simpa [Ts.size] using RO.out, NN.out, Kp.refl _, fun _ _ => rfl, fun _ => rfl⟩
    · rw [Bool.not_eq_true] at h0
      obtain ⟨b, oo, hp, hlies⟩ := hat
      have hl0 : 0 < ts.len := by have := beq_eq_false_iff_ne.1 h0; omega
      have hp' := Ts.some_of hp hl0
      have LI := Lib.hid hlies
      have OK := Lib.hid hok
      have RO := Lib.hid hroom
      have NN := Lib.hid hni
      obtain ⟨o', r0, r2⟩ := hroom.rm
      have ho : o' = o := r2.resolve_left (by omega)
      rw [ho] at r0
      have r1 := hroom.rmf
      clear r2 ho
      clear hp hlies hok hroom hni
      subst hp'
      go_enter Try.func86, Try.ntmps86
      go_upto_region 4 with fail
      go_cut [7] (fun s7 wx => s7 = .slice (some ⟨RB, o, none⟩) ts.len ts.len ∧ Hid (RIn step cnt NI NS B0 RM RB o rem ts (renT step ts st).1 (renT step ts st).2 w wx st 0 (o + ts.len * 4) (rem - ts.len)))
      case first =>
        have ST0 := fun (m o2 : Nat) (hm : m = rem - ts.len) (ho : m = 0 ∨ o2 = o + ts.len * 4) => RIn.start N hRM hRB hne RO.out NN.out hrem hcnt hm ho
        have ST := Lib.hid ST0
        clear ST0
        by_cases hrl : rem = ts.len
        · go_wp2_with fail
          all_goals go_meet
          all_goals exact ⟨rfl, Lib.hid (ST.out 0 o (by omega) (.inl rfl))⟩
        · go_wp2_with fail
          all_goals go_meet
          all_goals exact ⟨rfl, Lib.hid (ST.out _ _ rfl (.inr rfl))⟩
      case rest =>
        obtain ⟨rfl, RI0⟩ := hcut
        go_wp2_with fail
        go_loopw [31] (fun s31 wr => ∃ (j : Nat) (st' : σ) (oc rem' : Nat), j ≤ ts.len ∧ s31 = .int .i64 j ∧ Hid (RIn step cnt NI NS B0 RM RB o rem ts (renT step ts st).1 (renT step ts st).2 w wr st' j oc rem')) (fun i _ => ts.len - (intOf i).toNat)
        case atStart => exact ⟨0, st, _, _, Nat.zero_le _, rfl, RI0⟩
        case round =>
          obtain ⟨j, st', oc, rem2, hj, rfl, RI⟩ := hrel
          by_cases hlt : j < ts.len
          · have hkp := RI.out.kp
            have hws := hkp.size
            have hliesr : ts.liesP (· < B0) wr b oo := Ts.liesP_stay (fun x hx _ => hkp.B.block x hx) ts LI.out
            obtain ⟨k, s, n, pp, cc, kids, rest, HD, EL, hatk, hbB, hsz1, hoke⟩ := Ts.elemP hliesr OK.out hlt
            have OKE := Lib.hid hoke
            have hnb := hoke.2.2.1
            have hcc := hoke.2.2.2.1
            have hcn := RI.out.cnt
            have he1 := RI.out.e1
            have he2 := RI.out.e2
            have he3 := RI.out.e3
            rw [HD.out] at hcn he2
            simp only [Ts.size, Ts.len] at hcn he2
            have hlr := Ts.len_size rest
            have hNT : ¬ NS wr.heap.size := fun h => by have := N.own _ h; omega
            obtain ⟨W3, hW3, hs3, hB3, hc3, hf3⟩ := alloc_new wr #[.int .u8 k, .string s, .int .i64 n, .slice pp kids.len cc] 24
            have k3 : Kp B0 RM RB NS wr W3 := by rw [hW3]; exact (Kp.refl wr).alloc (by omega) _
            have ni3 : NI st' W3 := N.stay _ _ _ RI.out.ni (fun b hb => hB3.block b (by have := N.own b hb; omega)) (by omega)
            have c0 := EL.c0
            have c1 := EL.c1
            have c2 := EL.c2
            have c3 := EL.c3
            have t0 := hc3 0 _ rfl
            have t1 := hc3 1 _ rfl
            have t2 := hc3 2 _ rfl
            have t3 := hc3 3 _ rfl
            have g2 := hf3 2
            have g3 := hf3 3
            have NI3 := Lib.hid ni3
            have K3 := Lib.hid k3
            have R3 := Lib.hid (stays hB3)
            clear hc3 hf3 hliesr hkp hoke ni3 k3
            by_cases hk1 : (k == 1) = true
            · go_wp2_with fail
              rw [← hW3]
              have Z3 := Lib.hid hW3
              clear hW3
              refine (N.call st' W3 n NI3.out (by omega) hnb (by omega)).mono ?_
              rintro e v4 ⟨rfl, hni4, hsz4, hB4, hold4⟩
              have hblk := hold4 wr.heap.size (by omega) hNT
              replace t0 := (World.cell?_of_block (a := ⟨wr.heap.size, 0, none⟩) hblk).trans t0
              replace t1 := (World.cell?_of_block (a := ⟨wr.heap.size, 1, none⟩) hblk).trans t1
              replace t2 := (World.cell?_of_block (a := ⟨wr.heap.size, 2, none⟩) hblk).trans t2
              replace t3 := (World.cell?_of_block (a := ⟨wr.heap.size, 3, none⟩) hblk).trans t3
              replace g2 := (World.frozen?_of_block (a := ⟨wr.heap.size, 2, none⟩) hblk).trans g2
              replace g3 := (World.frozen?_of_block (a := ⟨wr.heap.size, 3, none⟩) hblk).trans g3
              obtain ⟨W4, hW4⟩ : ∃ W4, W4 = v4.setCell ⟨wr.heap.size, 2, none⟩ (.int .i64 (step st' n).1) := ⟨_, rfl⟩
              have hb4 : ∀ b, b ≠ wr.heap.size → W4.heap[b]? = v4.heap[b]? := fun b h => by rw [hW4]; exact Below.heap_setCell _ _ _ _ (by simpa using h)
              have hsz4' : W4.heap.size = v4.heap.size := by rw [hW4]; simp
              have hB4' : Below B0 wr W4 := by rw [hW4]; exact (K3.out.B.trans hB4).setCell (p := ⟨wr.heap.size, 2, none⟩) (by show B0 ≤ wr.heap.size; omega) _
              have hrb : W4.heap[RB]? = wr.heap[RB]? := (hb4 RB (by omega)).trans ((hold4 RB (by omega) hRB.2.2).trans (hB3.block RB (by omega)))
              have hrm : W4.heap[RM]? = wr.heap[RM]? := (hb4 RM (by omega)).trans ((hold4 RM (by omega) hRM.2.2).trans (hB3.block RM (by omega)))
              have C4 : Hid (∀ y, W4.cell? ⟨RB, y, none⟩ = wr.cell? ⟨RB, y, none⟩) := Lib.hid fun y => World.cell?_of_block (a := ⟨RB, y, none⟩) hrb
              have F4 : Hid (∀ y, W4.frozen? ⟨RB, y, none⟩ = wr.frozen? ⟨RB, y, none⟩) := Lib.hid fun y => World.frozen?_of_block (a := ⟨RB, y, none⟩) hrb
              have RO4 : Hid (Room RM RB oc rem2 W4) := Lib.hid (by
                obtain ⟨⟨o', q1, q2⟩, q3, q4, q5⟩ := RI.out.room
                exact ⟨⟨o', (World.cell?_of_block (a := ⟨RM, 0, none⟩) hrm).trans q1, q2⟩, (World.frozen?_of_block (a := ⟨RM, 0, none⟩) hrm).trans q3, fun y h1 h2 => by rw [C4.out y]; exact q4 y h1 h2, fun y h1 h2 => (F4.out y).trans (q5 y h1 h2)⟩)
              have K4 : Hid (Kp B0 RM RB NS wr W4) := Lib.hid ⟨by omega, hB4', fun b hb h1 h2 h3 => (hb4 b (by omega)).trans ((hold4 b (by omega) h3).trans (hB3.block b hb))⟩
              have NI4 : Hid (NI (step st' n).2 W4) := Lib.hid (N.stay _ _ _ hni4 (fun b hb => hb4 b (by have := N.own b hb; omega)) (by omega))
              have hT4 : wr.heap.size < W4.heap.size := by omega
              have ATK : Hid (Ts.AtP (· < B0) W4 pp kids) := Lib.hid (hatk.stay fun b hb _ => hB4'.block b hb)
              have hg1 := N.grow st' n
              have hft := N.fits st' W3 n NI3.out hnb (by omega)
              have s0 : W4.cell? ⟨wr.heap.size, 0, none⟩ = some (.int .u8 k) := by rw [hW4, World.cell?_setCell_other _ _ _ _ (by simp)]; exact t0
              have s1 : W4.cell? ⟨wr.heap.size, 1, none⟩ = some (.string s) := by rw [hW4, World.cell?_setCell_other _ _ _ _ (by simp)]; exact t1
              have s2 : W4.cell? ⟨wr.heap.size, 2, none⟩ = some (.int .i64 (step st' n).1) := by rw [hW4]; exact World.cell?_setCell_same _ _ _ t2
              have s3 : W4.cell? ⟨wr.heap.size, 3, none⟩ = some (.slice pp kids.len cc) := by rw [hW4, World.cell?_setCell_other _ _ _ _ (by simp)]; exact t3
              have z3 : W4.frozen? ⟨wr.heap.size, 3, none⟩ = false := by rw [hW4, World.frozen?_setCell]; exact g3
              have S0 := Lib.hid s0
              have S1 := Lib.hid s1
              have S2 := Lib.hid s2
              have S3 := Lib.hid s3
              have G3 := Lib.hid z3
              have W4E := Lib.hid hW4
              clear hW4 s0 s1 s2 s3 z3 hb4 hrb hrm hB4 hB4' hold4 hni4 hatk c0 c1 c2 c3 hblk
              go_wp2_with fail
              rw [← W4E.out]
              clear t0 t1 t2 t3 g2 g3
              have t0 := S0.out
              have t1 := S1.out
              have t2 := S2.out
              have t3 := S3.out
              have g3 := G3.out
              refine (ih kids (by omega) (by omega) OKE.out.2.2.2.2.2.1 (step st' n).2 W4 pp cc oc rem2 ATK.out (by omega) (by omega) RO4.out NI4.out (by omega) (by omega)).mono ?_
              rintro e w5 ⟨us, q, rfl, hat5, htw5, hok5, hq5, hroom5, hni5, hk5, hc5, hf5⟩
              have hk5s := hk5.size
              have t0' := (hk5.cell (b := wr.heap.size) (by omega) (by omega) (by omega) hNT 0).trans t0
              have t1' := (hk5.cell (b := wr.heap.size) (by omega) (by omega) (by omega) hNT 1).trans t1
              have t2' := (hk5.cell (b := wr.heap.size) (by omega) (by omega) (by omega) hNT 2).trans t2
              have t3' := (hk5.cell (b := wr.heap.size) (by omega) (by omega) (by omega) hNT 3).trans t3
              have g3' := (hk5.frozen (b := wr.heap.size) (by omega) (by omega) (by omega) hNT 3).trans g3
              have hrow5 : ∀ y, o ≤ y → y < o + ts.len * 4 → (w5.cell? ⟨RB, y, none⟩).isSome := fun y h1 h2 => by
                rw [hc5 y (.inl (by omega)), C4.out y]; exact RI.out.row y h1 h2
              obtain ⟨u0, e0⟩ := Option.isSome_iff_exists.1 (hrow5 (o + j * 4) (by omega) (by omega))
              obtain ⟨u1, e1⟩ := Option.isSome_iff_exists.1 (hrow5 (o + j * 4 + 1) (by omega) (by omega))
              obtain ⟨u2, e2⟩ := Option.isSome_iff_exists.1 (hrow5 (o + j * 4 + 2) (by omega) (by omega))
              obtain ⟨u3, e3⟩ := Option.isSome_iff_exists.1 (hrow5 (o + j * 4 + 3) (by omega) (by omega))
              have hfr5 : ∀ y, o ≤ y → y < o + ts.len * 4 → w5.frozen? ⟨RB, y, none⟩ = false := fun y h1 h2 => by
                rw [hf5, F4.out, RI.out.frow]; exact RO.out.free y h1 (by omega)
              have f0 := hfr5 (o + j * 4) (by omega) (by omega)
              have f1 := hfr5 (o + j * 4 + 1) (by omega) (by omega)
              have f2 := hfr5 (o + j * 4 + 2) (by omega) (by omega)
              have f3 := hfr5 (o + j * 4 + 3) (by omega) (by omega)
              have X := Lib.hid (RI.out.step N hRM hRB hne hBn hlt HD.out OKE.out.1 OKE.out.2.1 (by rw [if_pos hk1]) hft K4.out hT4 C4.out F4.out hat5 htw5 hok5 hq5 hroom5 hni5 hk5 hc5 hf5 rfl (by omega) (by omega))
              have hneq : ¬ wr.heap.size = RB := by omega
              have hneq' : ¬ RB = wr.heap.size := by omega
              clear t0 t1 t2 t3 g3 hat5 htw5 hok5 hq5 hroom5 hni5 hk5 hc5 hf5 hrow5 hfr5
              go_wp2
              go_roundw
              case rel => exact ⟨j + 1, _, _, _, by omega, by go_num, X⟩
              case measure => simp [intOf]; omega
            · rw [Bool.not_eq_true] at hk1
              go_wp2_with fail
              obtain ⟨W4, hW4⟩ : ∃ W4, W4 = W3 := ⟨_, rfl⟩
              rw [← hW3, ← hW4]
              have hB4' : Below B0 wr W4 := by rw [hW4]; exact K3.out.B
              have hrb : W4.heap[RB]? = wr.heap[RB]? := by rw [hW4]; exact hB3.block RB (by omega)
              have hrm : W4.heap[RM]? = wr.heap[RM]? := by rw [hW4]; exact hB3.block RM (by omega)
              have C4 : Hid (∀ y, W4.cell? ⟨RB, y, none⟩ = wr.cell? ⟨RB, y, none⟩) := Lib.hid fun y => World.cell?_of_block (a := ⟨RB, y, none⟩) hrb
              have F4 : Hid (∀ y, W4.frozen? ⟨RB, y, none⟩ = wr.frozen? ⟨RB, y, none⟩) := Lib.hid fun y => World.frozen?_of_block (a := ⟨RB, y, none⟩) hrb
              have RO4 : Hid (Room RM RB oc rem2 W4) := Lib.hid (by
                obtain ⟨⟨o', q1, q2⟩, q3, q4, q5⟩ := RI.out.room
                exact ⟨⟨o', (World.cell?_of_block (a := ⟨RM, 0, none⟩) hrm).trans q1, q2⟩, (World.frozen?_of_block (a := ⟨RM, 0, none⟩) hrm).trans q3, fun y h1 h2 => by rw [C4.out y]; exact q4 y h1 h2, fun y h1 h2 => (F4.out y).trans (q5 y h1 h2)⟩)
              have K4 : Hid (Kp B0 RM RB NS wr W4) := Lib.hid (by rw [hW4]; exact K3.out)
              have NI4 : Hid (NI st' W4) := Lib.hid (by rw [hW4]; exact NI3.out)
              have hT4 : wr.heap.size < W4.heap.size := by rw [hW4]; omega
              have ATK : Hid (Ts.AtP (· < B0) W4 pp kids) := Lib.hid (hatk.stay fun b hb _ => hB4'.block b hb)
              rw [← hW4] at t0 t1 t2 t3 g2 g3
              have W4E := Lib.hid hW4
              have Z3 := Lib.hid hW3
              clear hW4 hW3 hrb hrm hB4' hatk c0 c1 c2 c3
              refine (ih kids (by omega) (by omega) OKE.out.2.2.2.2.2.1 st' W4 pp cc oc rem2 ATK.out (by omega) (by omega) RO4.out NI4.out (by omega) (by omega)).mono ?_
              rintro e w5 ⟨us, q, rfl, hat5, htw5, hok5, hq5, hroom5, hni5, hk5, hc5, hf5⟩
              have hk5s := hk5.size
              have t0' := (hk5.cell (b := wr.heap.size) (by omega) (by omega) (by omega) hNT 0).trans t0
              have t1' := (hk5.cell (b := wr.heap.size) (by omega) (by omega) (by omega) hNT 1).trans t1
              have t2' := (hk5.cell (b := wr.heap.size) (by omega) (by omega) (by omega) hNT 2).trans t2
              have t3' := (hk5.cell (b := wr.heap.size) (by omega) (by omega) (by omega) hNT 3).trans t3
              have g3' := (hk5.frozen (b := wr.heap.size) (by omega) (by omega) (by omega) hNT 3).trans g3
              have hrow5 : ∀ y, o ≤ y → y < o + ts.len * 4 → (w5.cell? ⟨RB, y, none⟩).isSome := fun y h1 h2 => by
                rw [hc5 y (.inl (by omega)), C4.out y]; exact RI.out.row y h1 h2
              obtain ⟨u0, e0⟩ := Option.isSome_iff_exists.1 (hrow5 (o + j * 4) (by omega) (by omega))
              obtain ⟨u1, e1⟩ := Option.isSome_iff_exists.1 (hrow5 (o + j * 4 + 1) (by omega) (by omega))
              obtain ⟨u2, e2⟩ := Option.isSome_iff_exists.1 (hrow5 (o + j * 4 + 2) (by omega) (by omega))
              obtain ⟨u3, e3⟩ := Option.isSome_iff_exists.1 (hrow5 (o + j * 4 + 3) (by omega) (by omega))
              have hfr5 : ∀ y, o ≤ y → y < o + ts.len * 4 → w5.frozen? ⟨RB, y, none⟩ = false := fun y h1 h2 => by
                rw [hf5, F4.out, RI.out.frow]; exact RO.out.free y h1 (by omega)
              have f0 := hfr5 (o + j * 4) (by omega) (by omega)
              have f1 := hfr5 (o + j * 4 + 1) (by omega) (by omega)
              have f2 := hfr5 (o + j * 4 + 2) (by omega) (by omega)
              have f3 := hfr5 (o + j * 4 + 3) (by omega) (by omega)
              have X := Lib.hid (RI.out.step N hRM hRB hne hBn hlt HD.out OKE.out.1 OKE.out.2.1 (by rw [if_neg (by rw [hk1]; simp)]) hnb K4.out hT4 C4.out F4.out hat5 htw5 hok5 hq5 hroom5 hni5 hk5 hc5 hf5 rfl (by omega) (by omega))
              have hneq : ¬ wr.heap.size = RB := by omega
              have hneq' : ¬ RB = wr.heap.size := by omega
              clear t0 t1 t2 t3 g3 hat5 htw5 hok5 hq5 hroom5 hni5 hk5 hc5 hf5 hrow5 hfr5
              go_wp2
              go_roundw
              case rel => exact ⟨j + 1, _, _, _, by omega, by go_num, X⟩
              case measure => simp [intOf]; omega
          · have hjl : j = ts.len := by omega
            have hnil := Ts.drop_end hlt
            have hrs := RI.out.rest
            have he2 := RI.out.e2
            have he1 := RI.out.e1
            rw [hnil] at hrs he2
            simp only [renT, Ts.size, Ts.len] at hrs he2
            have hfin : st' = (renT step ts st).2 := congrArg Prod.snd hrs
            have hoc : oc = o + ts.size * 4 := by omega
            have hrm2 : rem2 = rem - ts.size := by omega
            have hdn := RI.out.done
            rw [show j = (renT step ts st).1.len from by rw [renT_len]; exact hjl] at hdn
            obtain ⟨us, hl, htw, hok'⟩ := hdn.made (by omega) (by rw [renT_len]; omega)
            have hlu : us.len = ts.len := (Ts.twin_len _ _ htw).trans (renT_len step ts st)
            rw [hoc] at hl
            have X := Lib.hid RI.out
            rw [hoc, hrm2, hfin] at X
            have HL := Lib.hid hlu
            have L := Lib.hid hl
            have TW := Lib.hid htw
            clear hl htw hlu hdn hrs he2 he1 hnil hfin hoc hrm2 hjl RI
            go_wp2
            go_ret
            exact ⟨us, some ⟨RB, o, none⟩, by rw [HL.out]; rfl, ⟨RB, o, .inr rfl, L.out⟩, TW.out, hok', (fun h => by cases h), X.out.room, X.out.ni, X.out.kp, X.out.out, X.out.frow⟩
end Go.Proofs.Ytflomdnjabgnaaa
