import Derived.Test.YtflomdnjabgnaaaAk
import Derived.Test.YtflomdnjabgnaaaAm
import Derived.Test.YtflomdnjabgnaaaWe0
import Derived.Test.YtflomdnjabgnaaaBc
import Derived.Test.YtflomdnjabgnaaaBi
/-
  Layer 3: bindings made one behind the other: what stands between two of them.
-/
namespace Go.Proofs.Ytflomdnjabgnaaa
open Go.RowKit

theorem liesB_liesP {B : Nat} {w : World} : ∀ (ts : Ts) {b o : Nat}, ts.liesB B w b o → ts.liesP (B ≤ ·) w b o
  | .nil, _, _, _ => trivial
  | .cons _ _ _ _ _ kids rest, _, _, ⟨hb, h0, h1, h2, h3, ⟨b', o', h4, h5⟩, h6⟩ => ⟨hb, h0, h1, h2, h3, ⟨b', o', h4, liesB_liesP kids h5⟩, liesB_liesP rest h6⟩

theorem AtB_atP {B : Nat} {w : World} {p : Option Addr} {ts : Ts} (hat : Ts.AtB B w p ts) : Ts.AtP (B ≤ ·) w p ts := by
  obtain ⟨b, o, h1, h2⟩ := hat
  exact ⟨b, o, h1, liesB_liesP ts h2⟩

/-- blocks that are no row of bindings and not the substitution's own -/
def Off (row : Option Nat) (S : Nat) (b : Nat) : Prop := row ≠ some b ∧ b ≠ S

/-- a substitution lives on while a row of bindings grows -/
theorem SubAt.row {S : Nat} {σ : Sb} {n : Nat} {w w' : World} (h : SubAt S σ n w) {row : Option Nat} (hg : w.grownBy w' row) (hrow : ∀ g, row = some g → ∃ cur, w.heap[g]? = some (.cells cur 58 (0, 0)))
    (hap : ∀ v x, σ v = some x → Ts.AtP (Off row S) w x.p x.kids) : SubAt S σ n w' := by
  have keep : ∀ b o, w.heap[b]? = some o → (∀ cur, o ≠ Obj.cells cur 58 (0, 0)) → w'.heap[b]? = w.heap[b]? := fun b o ho hne => by
    refine hg.block b (Array.getElem?_eq_some_iff.1 ho).1 fun e => ?_
    obtain ⟨cur, hc⟩ := hrow b e.symm
    rw [ho] at hc
    cases hc
    exact hne cur rfl
  obtain ⟨p, hh, h1, h2, h3, h4⟩ := h.cells
  refine ⟨⟨p, hh, ?_, h2, h3.stay (Nat.le_refl _) fun b hb => ?_, h4⟩, h.ends, fun v x hx => ?_⟩
  · rw [keep _ _ h1 fun cur e => by injection e with _ e2 _; exact absurd e2 (by decide)]
    exact h1
  · rcases hb with ⟨ks, u, hb⟩ | ⟨es, k, hb⟩
    · exact keep _ _ hb fun cur e => by injection e with _ e2 _; exact absurd e2 (by decide)
    · exact keep _ _ hb fun cur e => by cases e
  · obtain ⟨g1, g2⟩ := h.at_ v x hx
    exact ⟨AtP_at ((hap v x hx).stay fun b hb hlt => hg.block b hlt fun e => hb.1 e.symm), g2⟩

/-- what stands between two bindings -/
structure MkIn (w : World) (j : Nat) (hv : Value) (had : List (Int × Nd)) (σ : Sb) (wr : World) : Prop where
  hl : had.length ≤ j
  own : wr.ownsRow w.heap.size 58 5 hv had.length (cellsB had)
  kids : KidsAt w (bsTs had)
  sub : SubAt w.heap.size σ had.length wr
  tw : STw σ (look had)
  sm : ∀ e ∈ had, e.2.ok ∧ e.2.kids.size ≤ 5000
  apart : ∀ v x, σ v = some x → Ts.AtP (Off hv.ownBlock w.heap.size) wr x.p x.kids
  B : Below w.heap.size w wr

/-- what stands when it has been bound, but not yet been put behind the others -/
structure MkMid (w : World) (hv : Value) (had : List (Int × Nd)) (v : Int) (t : Nd) (σ : Sb) (wr : World) : Prop where
  own : wr.ownsRow w.heap.size 58 5 hv had.length (cellsB had)
  sub : SubAt w.heap.size σ (had.length + 1) wr
  tw : STw σ (look (had ++ [(v, t)]))
  apart : ∀ v x, σ v = some x → Ts.AtP (Off hv.ownBlock w.heap.size) wr x.p x.kids
  B : Below w.heap.size w wr

theorem MkIn.ends {w : World} {j : Nat} {hv : Value} {had : List (Int × Nd)} {σ : Sb} {wr : World} (h : MkIn w j hv had σ wr) : Ends (look had) := h.tw.ends h.sub.ends

/-- the row of bindings, read -/
theorem row_read {w : World} {hv : Value} {had : List (Int × Nd)} {wr : World} (own : wr.ownsRow w.heap.size 58 5 hv had.length (cellsB had)) (kids : KidsAt w (bsTs had)) (B : Below w.heap.size w wr) : ∃ q c, hv = .slice q had.length c ∧ BsAt wr q had :=
  row_bs own (kids.below B)

theorem MkIn.same {w : World} {j : Nat} {hv : Value} {had : List (Int × Nd)} {σ : Sb} {wr wx : World} (h : MkIn w j hv had σ wr) (hB : Below wr.heap.size wr wx) : MkIn w j hv had σ wx :=
  ⟨h.hl, own_below h.own hB, h.kids, h.sub.below hB, h.tw, h.sm, fun v x hx => (h.apart v x hx).stay fun b _ hb => hB.block b hb, h.B.trans (hB.mono h.B.size)⟩

theorem MkIn.up {w : World} {j : Nat} {hv : Value} {had : List (Int × Nd)} {σ : Sb} {wr : World} (h : MkIn w j hv had σ wr) : MkIn w (j + 1) hv had σ wr := { h with hl := Nat.le_succ_of_le h.hl }

theorem MkMid.same {w : World} {hv : Value} {had : List (Int × Nd)} {v : Int} {t : Nd} {σ : Sb} {wr wx : World} (h : MkMid w hv had v t σ wr) (hB : Below wr.heap.size wr wx) : MkMid w hv had v t σ wx :=
  ⟨own_below h.own hB, h.sub.below hB, h.tw, fun v x hx => (h.apart v x hx).stay fun b _ hb => hB.block b hb, h.B.trans (hB.mono h.B.size)⟩

/-- the row's block -/
theorem own_block {w : World} {base n size : Nat} {e : TypeId} {v : Value} {xs : List Value} (h : w.ownsRow base e size v n xs) : ∀ g, v.ownBlock = some g → ∃ cur, w.heap[g]? = some (.cells cur e (0, 0)) := by
  intro g hg
  rcases h.2 with ⟨rfl, _⟩ | ⟨g', cap, cur, rfl, _, hg2, _⟩
  · cases hg
  · cases hg; exact ⟨cur, hg2⟩

/-- what a call of Bind leaves alone -/
theorem MkIn.kept {w : World} {j : Nat} {hv : Value} {had : List (Int × Nd)} {σ : Sb} {wr w3 : World} (h : MkIn w j hv had σ wr) (hg : wr.grownBy w3 (some w.heap.size)) :
    w3.ownsRow w.heap.size 58 5 hv had.length (cellsB had) ∧ Below w.heap.size w w3 := by
  refine ⟨h.own.kept hg ?_, h.B.grown hg h.B.size fun k hk => by cases hk; exact Nat.le_refl _⟩
  cases ho : hv.ownBlock with
  | none => exact .inl rfl
  | some g =>
    refine .inr fun e => ?_
    cases e
    obtain ⟨cur, h1⟩ := own_block h.own _ ho
    obtain ⟨p, hh, h2, _⟩ := h.sub.cells
    rw [h1] at h2
    injection h2 with h2
    injection h2 with _ e2 _
    exact absurd e2 (by decide)

theorem MkIn.bound {w : World} {j : Nat} {hv : Value} {had : List (Int × Nd)} {σ : Sb} {wr w3 : World} (h : MkIn w j hv had σ wr) {v : Int} {t : Nd} {e : Ending} (hb : Bound w.heap.size σ had.length wr v t e w3) (h0 : bindE σ v t = 0) (hn : look had v = none) : ∃ σ', MkMid w hv had v t σ' w3 := by
  obtain ⟨x, hx, hS, hat⟩ := hb.yes h0
  obtain ⟨k1, k2⟩ := h.kept hb.grown
  refine ⟨σ.put v x, k1, hS, h.tw.put hn hx, fun u y hy => ?_, k2⟩
  by_cases e : u = v
  · subst e
    rw [Sb.put_same] at hy
    cases hy
    refine AtP_imp (fun b _ hB => ⟨fun e => ?_, fun e => ?_⟩) (AtB_atP hat)
    · have := (h.own.lt b e).2; omega
    · have := h.sub.lt; omega
  · rw [Sb.put_other e] at hy
    exact (h.apart u y hy).stay fun b hb' hlt => hb.grown.block b hlt fun e => hb'.2 (by injection e)

theorem MkMid.push {w : World} {j : Nat} {hv v' : Value} {had : List (Int × Nd)} {v : Int} {t : Nd} {σ : Sb} {wr w' : World} (h : MkMid w hv had v t σ wr) (hl : had.length ≤ j) (hk : KidsAt w (bsTs had)) (hkt : Ts.At w t.p t.kids) (hsm : ∀ e ∈ had, e.2.ok ∧ e.2.kids.size ≤ 5000) (hst : t.ok ∧ t.kids.size ≤ 5000)
    (hown : w'.ownsRow w.heap.size 58 5 v' (had.length + 1) (cellsB had ++ cellsB [(v, t)])) (hg : wr.grownBy w' hv.ownBlock) (hob : v'.ownBlock = hv.ownBlock ∨ v'.ownBlock = some wr.heap.size) : MkIn w (j + 1) v' (had ++ [(v, t)]) σ w' := by
  have hlen : (had ++ [(v, t)]).length = had.length + 1 := by simp
  refine ⟨by rw [hlen]; omega, by rw [hlen, cellsB_app]; exact hown, by rw [bsTs_app]; exact hk.app ⟨hkt, trivial⟩, by rw [hlen]; exact h.sub.row hg (own_block h.own) h.apart, h.tw, fun e he => ?_, fun u x hx => ?_, h.B.grown hg h.B.size fun k hk' => (h.own.lt k hk').1⟩
  · rcases List.mem_append.1 he with he | he
    · exact hsm e he
    · simp at he; rw [he]; exact hst
  · refine AtP_imp (P := fun b => Off hv.ownBlock w.heap.size b ∧ b < wr.heap.size) (fun b _ hb => ?_) ((AtP_imp (fun b hlt hb => ⟨hb, hlt⟩) (h.apart u x hx)).stay fun b hb hlt => hg.block b hlt fun e => hb.1.1 e.symm)
    refine ⟨fun e => ?_, hb.1.2⟩
    rcases hob with ho | ho
    · rw [ho] at e; exact hb.1.1 e
    · rw [ho] at e; injection e with e; omega

end Go.Proofs.Ytflomdnjabgnaaa
/-
  Layer 3: bindings made one behind the other, walked.
-/
namespace Go.Proofs.Ytflomdnjabgnaaa
open Go.RowKit

def zeroB : Value := .agg #[.int .i64 0, .int .u8 0, .string ByteArray.empty, .int .i64 0, .slice none 0 0]
theorem infoB : (Try.prog.info? 58).map (fun i => (i.zero, i.size, i.bytes)) = some (some zeroB, 5, 64) := by kernel_rfl

/-- what is made of bindings -/
def Made (w : World) (l : List (Int × Nd)) (e : Ending) (w' : World) : Prop :=
  ∃ had σ q c, e = .returned (.tuple #[.pointer (some ⟨w.heap.size, 0, none⟩), .slice q had.length c, .bool true]) ∧ BsAt w' q had ∧ had.length ≤ l.length ∧ SubAt w.heap.size σ had.length w' ∧ STw σ (look had) ∧ (∀ e ∈ had, e.2.ok ∧ e.2.kids.size ≤ 5000) ∧ Below w.heap.size w w'

theorem valOf_agg (o : Option Nd) : ∃ (k : Int) (s : ByteArray) (n : Int) (p : Option Addr) (L c : Nat), valOf o = .agg #[.int .u8 k, .string s, .int .i64 n, .slice p L c] := by
  cases o with
  | none => exact ⟨0, ⟨#[]⟩, 0, none, 0, 0, rfl⟩
  | some x => exact ⟨x.k, x.s, x.n, x.p, x.kids.len, x.c, rfl⟩

theorem bindE_zero {ρ : Sb} {v : Int} {t : Nd} (h : bindE ρ v t = 0) : ρ v = none := by
  unfold bindE at h
  by_cases h1 : v < 0
  · rw [if_pos h1] at h; omega
  · rw [if_neg h1] at h
    by_cases h2 : (ρ v).isSome = true
    · rw [if_pos h2] at h; omega
    · simpa using h2

set_option maxRecDepth 100000 in
set_option maxHeartbeats 16000000 in
theorem make_any (l : List (Int × Nd)) (hl : l.length ≤ 40) (hok : (bsTs l).ok) (hsz : (bsTs l).size ≤ 5000) (hvr : ∀ e ∈ l, -9223372036854775808 ≤ e.1 ∧ e.1 ≤ 9223372036854775807) (w : World) (lp : Option Addr) (lc : Nat) (hat : BsAt w lp l) :
    Calls Try.prog 25 #[.slice lp l.length lc] w (Made w l) := by
  obtain ⟨b, o, hp, hlies⟩ := hat
  have HP := Lib.hid hp
  have LI := Lib.hid hlies
  have OK := Lib.hid hok
  have VR := Lib.hid hvr
  obtain ⟨i0, hi, hz0, hz1, hz2⟩ := info_parts infoB
  clear hp hlies hok hvr
  go_enter Try.func25, Try.ntmps25
  go_wp2_with fail
  refine (new_any w).mono ?_
  rintro e W0 ⟨rfl, hS0, hB0⟩
  have M0 : Hid (MkIn w 0 (.slice none 0 0) [] Sb.none W0) := Lib.hid ⟨Nat.le_refl _, World.ownsRow_nil _ _ _ _, trivial, hS0, STw.none, (fun e he => by cases he), (fun v x hx => by cases hx), hB0⟩
  clear hS0 hB0
  go_wp2_with fail
  go_loopw [6, 7] (fun s6 s7 wr => ∃ (j : Nat) (had : List (Int × Nd)) (σ : Sb), j ≤ l.length ∧ s7 = .int .i64 j ∧ Hid (MkIn w j s6 had σ wr)) (fun _ i _ => l.length - (intOf i).toNat)
  case atStart => exact ⟨0, [], Sb.none, by omega, rfl, M0⟩
  case round =>
    rename_i s6
    obtain ⟨j, had, σ, hj, rfl, MK⟩ := hrel
    obtain ⟨q, c, hs6, hba⟩ := row_read MK.out.own MK.out.kids MK.out.B
    subst hs6
    have hhl := MK.out.hl
    by_cases hlt : j < l.length
    · have hpp : lp = some ⟨b, o, none⟩ := by
        rcases HP.out with h | h
        · rw [h] at hlt; simp at hlt
        · exact h
      subst hpp
      obtain ⟨⟨v, x⟩, hux⟩ : ∃ ux, l[j]? = some ux := ⟨_, List.getElem?_eq_getElem hlt⟩
      have EL := (LI.out.stay (stays MK.out.B).1).get hux
      have c0 := EL.c0
      have c1 := EL.c1
      have c2 := EL.c2
      have c3 := EL.c3
      have c4 := EL.c4
      have hatx := EL.at_
      have hatw := (LI.out.get hux).at_
      have hxo := bsTs_get OK.out hux
      have hv := VR.out _ (List.mem_of_getElem? hux)
      simp only at hv
      have XO := Lib.hid hxo.1
      have hxs : x.kids.size ≤ 5000 := by have := hxo.2; omega
      have XA := Lib.hid hatx
      have XW := Lib.hid hatw
      clear EL hux hba hxo hatx hatw
      go_wp2_with fail
      obtain ⟨W1, hW1, hs1, hB1, hc1, hf1⟩ := alloc_new wr #[.int .i64 v, .int .u8 x.k, .string x.s, .int .i64 x.n, .slice x.p x.kids.len x.c] 58
      rw [← hW1]
      have Z1 := Lib.hid hW1
      have M1 := Lib.hid (MK.out.same hB1)
      have hhm : had.length < 1000000 := by omega
      refine (bind_any w.heap.size σ had.length W1 M1.out.sub hhm v hv x XO.out (XA.out.below hB1) hxs).mono ?_
      rintro e w3 hBd
      have hout := hBd.out
      obtain ⟨E, hE⟩ : ∃ E, E = bindE σ v x := ⟨_, rfl⟩
      rw [← hE] at hout
      subst hout
      have EE := Lib.hid hE
      have ET : Hid (E = bindE (look had) v x) := Lib.hid (by rw [hE]; exact bindE_tw M1.out.tw M1.out.sub.ends v x)
      have BD := Lib.hid hBd
      have hS := M1.out.sub.lt
      have hBs := MK.out.B.size
      have hSr := MK.out.sub.lt
      have hN1 : w3.heap[wr.heap.size]? = W1.heap[wr.heap.size]? := hBd.grown.block _ (by omega) (by simp; omega)
      have n0 : w3.cell? ⟨wr.heap.size, 0, none⟩ = some (.int .i64 v) := (World.cell?_of_block (a := ⟨wr.heap.size, 0, none⟩) hN1).trans (hc1 0 _ rfl)
      have n1 : w3.cell? ⟨wr.heap.size, 1, none⟩ = some (.int .u8 x.k) := (World.cell?_of_block (a := ⟨wr.heap.size, 1, none⟩) hN1).trans (hc1 1 _ rfl)
      have n2 : w3.cell? ⟨wr.heap.size, 2, none⟩ = some (.string x.s) := (World.cell?_of_block (a := ⟨wr.heap.size, 2, none⟩) hN1).trans (hc1 2 _ rfl)
      have n3 : w3.cell? ⟨wr.heap.size, 3, none⟩ = some (.int .i64 x.n) := (World.cell?_of_block (a := ⟨wr.heap.size, 3, none⟩) hN1).trans (hc1 3 _ rfl)
      have n4 : w3.cell? ⟨wr.heap.size, 4, none⟩ = some (.slice x.p x.kids.len x.c) := (World.cell?_of_block (a := ⟨wr.heap.size, 4, none⟩) hN1).trans (hc1 4 _ rfl)
      have hk3 := M1.out.kept hBd.grown
      have K3 := Lib.hid hk3
      obtain ⟨q3, c3', hq3, hba3⟩ := row_read hk3.1 MK.out.kids hk3.2
      injection hq3 with hq3a _ hq3b
      subst hq3a
      subst hq3b
      have BA3 := Lib.hid hba3
      clear hE hBd hW1 hc1 hf1 hN1 hk3 hba3 c0 c1 c2 c3 c4
      go_wp2_with fail
      refine (of_any had (by omega) w3 q c BA3.out v).mono ?_
      rintro e w4 ⟨rfl, hB4⟩
      obtain ⟨bd, hbd⟩ : ∃ bd, bd = (look had v).isSome := ⟨_, rfl⟩
      rw [← hbd]
      have BDD := Lib.hid hbd
      obtain ⟨vk, vs, vn, vp, vL, vc, hval⟩ := valOf_agg (look had v)
      rw [hval]
      clear hval hbd
      obtain ⟨W5, hW5, hs5, hB5, hc5, hf5⟩ := alloc_new w4 #[.int .u8 vk, .string vs, .int .i64 vn, .slice vp vL vc] 24
      have B35 : Below w3.heap.size w3 W5 := hB4.trans (hB5.mono hB4.size)
      have k0 := (stays B35).1 wr.heap.size 0 (World.block_lt_of_cell? _ _ n0) |>.trans n0
      have k1 := (stays B35).1 wr.heap.size 1 (World.block_lt_of_cell? _ _ n1) |>.trans n1
      have k2 := (stays B35).1 wr.heap.size 2 (World.block_lt_of_cell? _ _ n2) |>.trans n2
      have k3 := (stays B35).1 wr.heap.size 3 (World.block_lt_of_cell? _ _ n3) |>.trans n3
      have k4 := (stays B35).1 wr.heap.size 4 (World.block_lt_of_cell? _ _ n4) |>.trans n4
      have Z5 := Lib.hid hW5
      have BB5 := Lib.hid B35
      clear hW5 hc5 hf5 B35 hB4 hB5 n0 n1 n2 n3 n4
      go_upto_region 10 with fail
      rw [← Z5.out]
      obtain ⟨hit, hhit⟩ : ∃ hit : Bool, hit = (decide (v < 0) || bd) := ⟨_, rfl⟩
      have HH := Lib.hid hhit
      clear hhit
      go_cut [44] from 16 to 72 (fun s44 wx => s44 = .bool hit ∧ wx = W5)
      case first =>
        by_cases hv0 : v < 0
        · have R : Hid (hit = true) := Lib.hid (by rw [HH.out]; simp [hv0])
          go_wp2
          go_meet
          exact ⟨by rw [R.out], rfl⟩
        · have R : Hid (hit = bd) := Lib.hid (by rw [HH.out]; simp [hv0])
          go_wp2
          go_meet
          exact ⟨by rw [R.out], rfl⟩
      case rest =>
        obtain ⟨rfl, hw⟩ := hcut
        have hw' := hw.symm
        clear hw
        subst hw'
        go_upto_if 44 with fail
        go_cut [12, 13, 14] from 16 to 72 (fun s12 s13 s14 wx => s12 = .int .i64 E ∧ Hid (Below W5.heap.size W5 wx))
        case first =>
          cases hit with
          | true =>
            have R : Hid (E = 1) := Lib.hid (by
              rw [ET.out]
              unfold bindE
              by_cases hv0 : v < 0
              · rw [if_pos hv0]
              · have h := HH.out
                rw [BDD.out] at h
                rw [if_neg hv0, if_pos (by simpa [hv0] using h.symm)])
            go_wp2
            go_meet
            exact ⟨by rw [R.out], Lib.hid (Below.refl _ _)⟩
          | false =>
            obtain ⟨ob, oe, hocc⟩ : ∃ ob oe, occ v (num 0 (vis (look had) 4097 [x])) = (ob, oe) := ⟨_, _, rfl⟩
            have RE : Hid (E = if oe ≠ 0 then oe else if ob = true then 1 else 0) := Lib.hid (by
              have h := HH.out
              rw [BDD.out] at h
              have hv0 : ¬ v < 0 := fun e => by rw [decide_eq_true e] at h; cases h
              have hb0 : ¬ (look had v).isSome = true := fun e => by rw [e] at h; simp at h
              rw [ET.out]
              unfold bindE
              rw [if_neg hv0, if_neg hb0, hocc])
            have OCC := Lib.hid hocc
            clear hocc
            go_wp2_with fail
            refine (roccurs_any had (by omega) M1.out.ends (small_of M1.out.sm) W5 q c (BA3.out.below BB5.out) x XO.out hxs (XW.out.below (K3.out.2.trans (BB5.out.mono K3.out.2.size))) v).mono ?_
            rintro e w6 ⟨rfl, hB6⟩
            rw [OCC.out]
            have B6 := Lib.hid hB6
            clear hB6
            by_cases hoe : (oe != 0) = true
            · have R : Hid (E = oe) := Lib.hid (by rw [RE.out, if_pos (by simpa using hoe)])
              go_wp2
              go_meet
              exact ⟨by rw [R.out], B6⟩
            · have hoe0 : oe = 0 := by simpa using hoe
              subst hoe0
              clear hoe
              cases ob with
              | true =>
                have R : Hid (E = 1) := Lib.hid (by rw [RE.out, if_neg (by simp), if_pos rfl])
                go_wp2
                go_meet
                exact ⟨by rw [R.out], B6⟩
              | false =>
                have R : Hid (E = 0) := Lib.hid (by rw [RE.out, if_neg (by simp), if_neg (by simp)])
                go_wp2
                go_meet
                exact ⟨by rw [R.out], B6⟩
        case rest =>
          obtain ⟨rfl, B7⟩ := hcut
          have m0 := (stays B7.out).1 wr.heap.size 0 (World.block_lt_of_cell? _ _ k0) |>.trans k0
          have m1 := (stays B7.out).1 wr.heap.size 1 (World.block_lt_of_cell? _ _ k1) |>.trans k1
          have m2 := (stays B7.out).1 wr.heap.size 2 (World.block_lt_of_cell? _ _ k2) |>.trans k2
          have m3 := (stays B7.out).1 wr.heap.size 3 (World.block_lt_of_cell? _ _ k3) |>.trans k3
          have m4 := (stays B7.out).1 wr.heap.size 4 (World.block_lt_of_cell? _ _ k4) |>.trans k4
          clear k0 k1 k2 k3 k4
          by_cases hE0 : (E == 0) = true
          · have hE1 : E = 0 := by simpa using hE0
            obtain ⟨σ', hmid⟩ := M1.out.bound BD.out (by rw [← EE.out]; exact hE1) (bindE_zero (by rw [← ET.out]; exact hE1))
            have MID := Lib.hid ((hmid.same BB5.out).same B7.out)
            have MIDA := Lib.hid (MID.out.same ((Below.refl _ _).alloc (Nat.le_refl _) (.cells #[.int .i64 v, .int .u8 x.k, .string x.s, .int .i64 x.n, .slice x.p x.kids.len x.c] 58)))
            have hnews : ∀ i u, (cellsB [(v, x)])[i]? = some u → (wc.alloc (.cells #[.int .i64 v, .int .u8 x.k, .string x.s, .int .i64 x.n, .slice x.p x.kids.len x.c] 58)).cell? ((⟨wc.heap.size, 0, none⟩ : Addr).add i) = some u := by
              obtain ⟨W6, hW6, hs6, hB6, hc6, -⟩ := alloc_new wc #[.int .i64 v, .int .u8 x.k, .string x.s, .int .i64 x.n, .slice x.p x.kids.len x.c] 58
              intro i u hiu
              rw [Go.WideShapes.add_plain, Nat.zero_add, ← hW6]
              exact hc6 i u (by simpa [cellsB] using hiu)
            have N0 := Lib.hid hnews
            have hBs7 : w.heap.size ≤ wc.heap.size := MID.out.B.size
            clear hE1 hmid hnews
            go_wp2_with (at_builtin; refine wpList_append_own_at _ rfl _ _ 39 rfl w.heap.size 58 i0 zeroB 5 64 Try.underlying39 hi hz0 hz1 hz2 rfl (by decide) _ _ _ rfl MIDA.out.own ⟨wc.heap.size, 0, none⟩ 1 1 (cellsB [(v, x)]) rfl rfl N0.out (cellsB_one _) (by unfold maxLen; omega) (by omega) (by simp; omega) ?_; intro v5 W7 hown2 hgrow2 hnil hob; have X := Lib.hid (And.intro hown2 (And.intro hgrow2 hob)); clear hown2 hgrow2 hnil hob)
            have MN := Lib.hid (MIDA.out.push hhl MK.out.kids XW.out MK.out.sm ⟨XO.out, hxs⟩ X.out.1 X.out.2.1 X.out.2.2)
            go_roundw
            case rel => exact ⟨j + 1, had ++ [(v, x)], σ', by omega, by go_num, MN⟩
            case measure => simp [intOf]; omega
          · rw [Bool.not_eq_true] at hE0
            have MN := Lib.hid (((M1.out.same (BD.out.no (by rw [← EE.out]; simpa using hE0))).same BB5.out).same B7.out).up
            go_wp2
            go_roundw
            case rel => exact ⟨j + 1, had, σ, by omega, by go_num, MN⟩
            case measure => simp [intOf]; omega
    · go_wp2_with fail
      refine (len_any w.heap.size σ had.length wr MK.out.sub).mono ?_
      rintro e w9 ⟨rfl, hw9⟩
      have hw' := hw9
      subst hw'
      have BAF := Lib.hid hba
      clear hba
      go_wp2
      exact bodyPost_ret (v := .tuple #[.pointer (some ⟨w.heap.size, 0, none⟩), .slice q had.length c, .bool true]) (by simp [results, Try.results25, go_sem]) rfl ⟨had, σ, q, c, rfl, BAF.out, by omega, MK.out.sub, MK.out.tw, MK.out.sm, MK.out.B⟩

end Go.Proofs.Ytflomdnjabgnaaa
/-
  Layer 3: plain facts for the law SubstTells.
-/
namespace Go.Proofs.Ytflomdnjabgnaaa
open Go.RowKit

theorem App.tw {σ ρ : Sb} (h : STw σ ρ) (hE : Ends σ) {l : List Nd} {us : Ts} (ha : App σ l us) : ∀ {l' : List Nd} {vs : Ts}, TwL l l' → App ρ l' vs → Ts.twin us vs := by
  induction ha with
  | nil => intro l' vs hl hv; cases hl; cases hv; trivial
  | cons _ _ ih1 ih2 =>
    intro l' vs hl hv
    cases hl with
    | cons ht hl =>
      cases hv with
      | cons g1 g2 =>
        have hw := h.wk hE ht
        exact ⟨hw.1, hw.2.1, hw.2.2.1, ih1 (elems_tw hw.2.2.2) g1, ih2 hl g2⟩

/-- how many nodes an applied term has, its own node left out -/
theorem cnt_of {σ : Sb} {t : Nd} (h : (vis σ 4097 [t]).length ≤ 4096) : ∃ n, n ≤ 4096 ∧ Cnt σ (elems (wk σ t).kids) n := by
  obtain ⟨a, b, h1, h2, h3⟩ := Cnt.inv (vis_cnt (σ := σ) 4097 [t] (by omega))
  exact ⟨a, by omega, h1⟩

/-- terms that are alike, told so -/
theorem headAlike_twin {x y : Nd} (h : x.twin y) : headAlike x.k y.k x.s y.s x.n y.n = true := by
  obtain ⟨h1, h2, h3, _⟩ := h
  rw [h1, h2, h3]
  simp [headAlike]

theorem alike_twin {u v : Ts} (h : Ts.twin u v) : alike u v = true := (twin_alike_both h (Ts.twin_refl v)).trans (alike_refl v)

/-- two applied terms, or walked ones, are the same: told so -/
theorem same_twins {x y : Nd} (h : x.twin y) (hox : x.kids.ok) (hoy : y.kids.ok) (hlx : x.kids.len ≤ 1000000) (w : World) (hax : Ts.At w x.p x.kids) (hay : Ts.At w y.p y.kids) :
    Calls Try.prog 21 #[.agg #[.int .u8 x.k, .string x.s, .int .i64 x.n, .slice x.p x.kids.len x.c], .agg #[.int .u8 y.k, .string y.s, .int .i64 y.n, .slice y.p y.kids.len y.c]] w fun e w' => e = .returned (.bool true) ∧ Below w.heap.size w w' := by
  have hly : y.kids.len ≤ 1000000 := by rw [← Ts.twin_len _ _ h.2.2.2]; exact hlx
  refine (same_of x.kids y.kids (fun w p p' c c' ha hb => all_any _ x.kids y.kids (Nat.lt_succ_self _) hox hoy (by omega) (by omega) w p p' c c' ha hb) x.k y.k x.s y.s x.n y.n x.p y.p x.c y.c w hax hay).mono ?_
  rintro e w' ⟨rfl, hB⟩
  rw [headAlike_twin h, alike_twin h.2.2.2]
  exact ⟨rfl, hB⟩

end Go.Proofs.Ytflomdnjabgnaaa
/-
  Layer 3: plain facts for the law SubstMore.
-/
namespace Go.Proofs.Ytflomdnjabgnaaa
open Go.RowKit

theorem App.put_twin {σ : Sb} {v : Int} {x O : Nd} (hE : Ends σ) (hR : Ends (σ.put v x)) (hv : σ v = none) (h1 : O.k = (wk (σ.put v x) x).k) (h2 : O.s = (wk (σ.put v x) x).s) (h3 : O.n = (wk (σ.put v x) x).n) (h4 : App (σ.put v x) (elems (wk (σ.put v x) x).kids) O.kids)
    {l : List Nd} {us : Ts} (h : App σ l us) : ∀ {vs : Ts}, App (σ.put v x) l vs → Ts.twin vs (putT v O us) := by
  induction h with
  | nil => intro vs h; cases h; trivial
  | @cons t rest p c ks rs h h' ih ih' =>
    intro vs hvs
    cases hvs with
    | cons g g' =>
      by_cases hr : ((wk σ t).k == 1) = true ∧ (wk σ t).n = v
      · have e : wk (σ.put v x) t = wk (σ.put v x) x := wk_eq (Wk.put_on hv (wk_spec hE t) hr (wk_spec hR x))
        rw [e] at g ⊢
        simp only [putT, hr.1, hr.2, beq_self_eq_true, Bool.and_self, if_true]
        exact ⟨h1.symm, h2.symm, h3.symm, g.twin h4, ih' g'⟩
      · have e : wk (σ.put v x) t = wk σ t := wk_eq (Wk.put hv (wk_spec hE t) hr)
        rw [e] at g ⊢
        have hb : (((wk σ t).k == 1) && ((wk σ t).n == v)) = false := by
          rw [Bool.eq_false_iff]
          intro hb
          rw [Bool.and_eq_true] at hb
          exact hr ⟨hb.1, by simpa using hb.2⟩
        simp only [putT, hb, Bool.false_eq_true, if_false]
        exact ⟨rfl, rfl, rfl, ih g, ih' g'⟩

theorem App.size {σ : Sb} {l : List Nd} {us : Ts} (h : App σ l us) : ∀ {n : Nat}, Cnt σ l n → us.size = n := by
  induction h with
  | nil => intro n h; cases h; rfl
  | cons _ _ ih ih' =>
    intro n h
    cases h with
    | cons h h' => simp only [Ts.size, ih h, ih' h']

/-- a term made by applying -/
structure Ap (σ : Sb) (t : Nd) (X : Nd) : Prop where
  k : X.k = (wk σ t).k
  s : X.s = (wk σ t).s
  n : X.n = (wk σ t).n
  app : App σ (elems (wk σ t).kids) X.kids
  ok : X.kids.ok
  cap : X.kids.len ≤ X.c ∧ X.c ≤ 9223372036854775807
  nn : X.p = none → X.c = 0
  sz : X.kids.size < 4096

theorem Applied.cases {σ : Sb} {t : Nd} {B : Nat} {e : Ending} {w' : World} (h : Applied σ t B e w') :
    ((vis σ 4097 [t]).length = 4097 ∧ e = .returned (.tuple #[.agg #[.int .u8 0, .string ⟨#[]⟩, .int .i64 0, .slice none 0 0], .int .i64 31])) ∨
    ((vis σ 4097 [t]).length ≤ 4096 ∧ ∃ X : Nd, e = .returned (.tuple #[.agg #[.int .u8 X.k, .string X.s, .int .i64 X.n, .slice X.p X.kids.len X.c], .int .i64 0]) ∧ Ap σ t X ∧ Ts.AtB B w' X.p X.kids) := by
  rcases h with ⟨h1, h2⟩ | ⟨h1, us, q, h2, h3, h4, h5, h6⟩
  · exact .inl ⟨h1, h2⟩
  · obtain ⟨n, b, hc, _, hn⟩ := Cnt.inv (vis_cnt (σ := σ) 4097 [t] (by omega))
    have hz := h4.size hc
    have hl := Ts.len_size us
    exact .inr ⟨h1, ⟨(wk σ t).k, (wk σ t).s, (wk σ t).n, q, us.len, us⟩, h2, ⟨rfl, rfl, rfl, h4, h5, ⟨Nat.le_refl _, by simp only; omega⟩, h6, by simp only; omega⟩, h3⟩

theorem Applied.some {σ : Sb} {t : Nd} {B : Nat} {e : Ending} {w' : World} (h : Applied σ t B e w') : ∃ (X : Nd) (G : Int), e = .returned (.tuple #[.agg #[.int .u8 X.k, .string X.s, .int .i64 X.n, .slice X.p X.kids.len X.c], .int .i64 G]) := by
  rcases h.cases with ⟨_, h⟩ | ⟨_, X, h, _⟩
  · exact ⟨⟨0, ⟨#[]⟩, 0, none, 0, .nil⟩, 31, h⟩
  · exact ⟨X, 0, h⟩

theorem Ap.nd_ok {σ : Sb} {t X : Nd} (h : Ap σ t X) (hw : (wk σ t).ok) : X.ok := ⟨by rw [h.k]; exact hw.1, by rw [h.s]; exact hw.2.1, by rw [h.n]; exact hw.2.2.1, h.cap, h.nn, h.ok, trivial⟩

theorem SubAt.wk_ok {S : Nat} {σ : Sb} {n : Nat} {w : World} (h : SubAt S σ n w) {t : Nd} (hok : t.ok) (hat : Ts.At w t.p t.kids) (hsz : t.kids.size ≤ 5000) : (wk σ t).ok := (h.walked ⟨hat, hok, hsz⟩).2.1

theorem SubAt.keeps {S : Nat} {σ : Sb} {n : Nat} {w w' : World} (h : SubAt S σ n w) (hg : w.grownBy w' (some S)) {p : Option Addr} {ts : Ts} (hat : Ts.At w p ts) : Ts.At w' p ts := by
  obtain ⟨q, hh, h1, _⟩ := h.cells
  exact hat.small hg h1 (by simp)

theorem BoxIs.keeps {B S : Nat} {x : Nd} {w w' : World} (h : BoxIs B x w) (hg : w.grownBy w' (some S)) (hne : B ≠ S) : BoxIs B x w' :=
  h.of_block (hg.block B h.lt (fun e => hne (by cases e; rfl)))

theorem bindE_nn {σ : Sb} {v : Int} {t : Nd} (h : bindE σ v t = 0) : 0 ≤ v := by
  unfold bindE at h
  by_cases h1 : v < 0
  · rw [if_pos h1] at h; omega
  · omega

end Go.Proofs.Ytflomdnjabgnaaa
