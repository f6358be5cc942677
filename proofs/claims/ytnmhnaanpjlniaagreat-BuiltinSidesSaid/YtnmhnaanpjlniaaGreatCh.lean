import Derived.Test.YtnmhnaanpjlniaaGreatEj
import Derived.StillTailTactics
import Derived.Test.YtnmhnaanpjlniaaGreatAh
/-
  Layer 4: a variable is bound by a unification.
-/
namespace Go.Proofs.YtnmhnaanpjlniaaGreat
open Go.RowKit

/-- what a unification's binding leaves -/
def UBound (KB S : Nat) (σ : Sb) (n m : Nat) (w : World) (v : Int) (t : Nd) (e : Ending) (w' : World) : Prop :=
  G2 KB S w w' ∧ match bnd (4096 - m) σ v t with
    | .full => e = .panicked fullP
    | .no => e = .returned (.bool false)
    | .ok r' => e = .returned (.bool true) ∧ ∃ x : Nd, x.twin t ∧ UAt KB S (σ.put v x) (n + 1) (4096 - r') w' ∧ Ts.AtP (fun b => w.heap.size ≤ b) w' x.p x.kids

theorem UBound.mk_full {KB S : Nat} {σ : Sb} {n m : Nat} {w : World} {v : Int} {t : Nd} {w' : World} (hg : G2 KB S w w') (hb : bnd (4096 - m) σ v t = .full) : UBound KB S σ n m w v t (.panicked fullP) w' := ⟨hg, by rw [hb]⟩
theorem UBound.mk_no {KB S : Nat} {σ : Sb} {n m : Nat} {w : World} {v : Int} {t : Nd} {w' : World} (hg : G2 KB S w w') (hb : bnd (4096 - m) σ v t = .no) : UBound KB S σ n m w v t (.returned (.bool false)) w' := ⟨hg, by rw [hb]⟩
theorem UBound.mk_ok {KB S : Nat} {σ : Sb} {n m : Nat} {w : World} {v : Int} {t x : Nd} {w' : World} {r' : Nat} (hg : G2 KB S w w') (hb : bnd (4096 - m) σ v t = .ok r') (hx : x.twin t) (hu : UAt KB S (σ.put v x) (n + 1) (4096 - r') w') (ha : Ts.AtP (fun b => w.heap.size ≤ b) w' x.p x.kids) : UBound KB S σ n m w v t (.returned (.bool true)) w' := ⟨hg, by rw [hb]; exact ⟨rfl, x, hx, hu, ha⟩⟩

/-- between two rounds -/
structure Bst (σ : Sb) (KB S n m r : Nat) (vv : Int) (t : Nd) (w : World) (v : Value) (pre : List Nd) (st : List Ent) (f : Nat) (L : List Nd) (wr : World) : Prop where
  row : wr.ownsRow (w.heap.size + 1) 23 1 v st.length (st.reverse.map Ent.val)
  ents : ∀ e ∈ st, e.ts ≠ .nil ∧ (e.ts.len ≤ e.c ∧ e.c ≤ 9223372036854775807) ∧ e.ts.ok ∧ Ts.AtP (fun b => v.ownBlock ≠ some b) wr e.p e.ts ∧ (∀ x ∈ elems e.ts, x.kids.size ≤ 5000)
  tw : TwL (todo st) L
  all_ : pre ++ vis σ f L = vis σ (r + 1) [t]
  fuel : pre.length + f = r + 1
  none_ : posA vv 0 pre < 0
  pl : pre.length ≤ r
  u : UAt KB S σ n (m + pre.length) wr
  g : G2 KB KB w wr
  bx : BoxIs w.heap.size t wr
  stl : st.length ≤ pre.length + 1

theorem posA_none {v : Int} {y : Nd} (hy : ((y.k == 1) && (y.n == v)) = false) {pre : List Nd} (h : posA v 0 pre < 0) : posA v 0 (pre ++ [y]) < 0 := by
  rw [posA_app, if_pos h, if_neg (by rw [hy]; simp)]
  omega

/-- a term that is alike, walked -/
theorem wk_tw {σ : Sb} (hE : Ends σ) {x y : Nd} (h : x.twin y) : (wk σ x).twin (wk σ y) := STw.wk ⟨fun _ h => h, fun _ x h => ⟨x, h, Nd.twin_refl x⟩⟩ hE h

theorem Bst.start {σ : Sb} {KB S n m r : Nat} {vv : Int} {t : Nd} {w W0 : World} (hU : UAt KB S σ n m w) (hok : t.ok) (hat : Ts.At w t.p t.kids) (hsz : t.kids.size ≤ 5000)
    (hW0 : W0 = ((w.alloc (.cells #[.int .u8 t.k, .string t.s, .int .i64 t.n, .slice t.p t.kids.len t.c] 25)).alloc (.cells #[.int .u8 t.k, .string t.s, .int .i64 t.n, .slice t.p t.kids.len t.c] 25)).alloc (.cells #[.slice (some ⟨w.heap.size + 1, 0, none⟩) 1 1] 23)) :
    Bst σ KB S n m r vv t w (.slice (some ⟨w.heap.size + 1 + 1, 0, none⟩) 1 1) [] [⟨some ⟨w.heap.size + 1, 0, none⟩, .cons t.k t.s t.n t.p t.c t.kids .nil, 1⟩] (r + 1) [t] W0 := by
  have h2 := BoxIs.new (w.alloc (.cells #[.int .u8 t.k, .string t.s, .int .i64 t.n, .slice t.p t.kids.len t.c] 25)) t 25
  rw [World.size_alloc] at h2
  have hB : Below w.heap.size w W0 := by
    rw [hW0]
    exact (((Below.refl _ _).alloc (Nat.le_refl _) _).alloc (by simp) _).alloc (by rw [World.size_alloc, World.size_alloc]; omega) _
  have hb1 : BoxIs (w.heap.size + 1) t W0 := by
    rw [hW0]
    exact h2.below ((Below.refl _ _).alloc (Nat.le_refl _) _)
  have hrow := World.ownsRow_lit (base := w.heap.size + 1) (e := 23) (size := 1) ((w.alloc (.cells #[.int .u8 t.k, .string t.s, .int .i64 t.n, .slice t.p t.kids.len t.c] 25)).alloc (.cells #[.int .u8 t.k, .string t.s, .int .i64 t.n, .slice t.p t.kids.len t.c] 25)) #[.slice (some ⟨w.heap.size + 1, 0, none⟩) 1 1] 1 (by simp) (by unfold maxLen; omega) rfl
  rw [World.size_alloc, World.size_alloc, ← hW0] at hrow
  refine ⟨hrow, fun e he => ?_, ?_, rfl, by simp, by simp [posA], by simp, hU.below hB, .of_below hB, ?_, by simp⟩
  · obtain rfl : e = ⟨some ⟨w.heap.size + 1, 0, none⟩, .cons t.k t.s t.n t.p t.c t.kids .nil, 1⟩ := by simpa using he
    obtain ⟨b2, o2, h3, h4⟩ := hat.atP
    refine ⟨by simp, ⟨by simp [Ts.len], by simp⟩, hok, ⟨w.heap.size + 1, 0, .inr rfl, by simp [Value.ownBlock], hb1.c0, hb1.c1, hb1.c2, hb1.c3, ⟨b2, o2, h3, ?_⟩, trivial⟩, fun x hx => ?_⟩
    · exact liesP_imp (fun b _ hb => by have : b < w.heap.size := hb; simp only [Value.ownBlock, ne_eq, Option.some.injEq]; omega) t.kids (Ts.liesP_stay (fun x hx _ => hB.block x hx) t.kids h4)
    · simp only [elems, List.mem_singleton] at hx
      subst hx
      exact hsz
  · simp only [todo, elems, List.append_nil]
    exact .cons (Nd.twin_refl t) .nil
  · rw [hW0]
    exact (BoxIs.new w t _).below (below2 _ _ _)

set_option maxRecDepth 100000 in
set_option maxHeartbeats 8000000 in
theorem ubind_any (KB S : Nat) (σ : Sb) (n m : Nat) (w : World) (hU : UAt KB S σ n m w) (hm : m ≤ 4096) (hn : n < 1000000) (v : Int) (hv : -9223372036854775808 ≤ v ∧ v ≤ 9223372036854775807) (hfree : σ v = none) (t : Nd) (hok : t.ok) (hat : Ts.At w t.p t.kids) (hsz : t.kids.size ≤ 5000) :
    Calls Tryz.prog 143 #[.pointer (some ⟨KB, 0, none⟩), .int .i64 v, .agg #[.int .u8 t.k, .string t.s, .int .i64 t.n, .slice t.p t.kids.len t.c]] w (UBound KB S σ n m w v t) := by
  obtain ⟨r, hr⟩ : ∃ r, r = 4096 - m := ⟨_, rfl⟩
  have UU := Lib.hid hU
  have HV := Lib.hid hv
  have FREE := Lib.hid hfree
  have OK := Lib.hid hok
  have AT := Lib.hid hat
  have hmr1 : m + r ≤ 4096 := by omega
  have hmr2 : 4096 ≤ m + r := by omega
  have RR := Lib.hid hr
  have hKl := hU.lt
  have hSl := hU.sub.lt
  have TK := Lib.hid hU.tinyK
  have TS := Lib.hid hU.sub.tiny
  clear hU hv hfree hok hat hr
  go_enter Tryz.func143, Tryz.ntmps143
  go_upto_region 2 with fail
  obtain ⟨W0, hW0⟩ : ∃ W0, W0 = ((w.alloc (.cells #[.int .u8 t.k, .string t.s, .int .i64 t.n, .slice t.p t.kids.len t.c] 25)).alloc (.cells #[.int .u8 t.k, .string t.s, .int .i64 t.n, .slice t.p t.kids.len t.c] 25)).alloc (.cells #[.slice (some ⟨w.heap.size + 1, 0, none⟩) 1 1] 23) := ⟨_, rfl⟩
  rw [← hW0]
  have ST : Hid (Bst σ KB S n m r v t w (.slice (some ⟨w.heap.size + 1 + 1, 0, none⟩) 1 1) [] [⟨some ⟨w.heap.size + 1, 0, none⟩, .cons t.k t.s t.n t.p t.c t.kids .nil, 1⟩] (r + 1) [t] W0) := Lib.hid (Bst.start UU.out OK.out AT.out hsz hW0)
  clear hW0
  go_loopw [7] (fun s7 wr => ∃ (pre : List Nd) (st : List Ent) (f : Nat) (L : List Nd), Hid (Bst σ KB S n m r v t w s7 pre st f L wr)) (fun _ wr => visFar KB wr)
  case atStart => exact ⟨[], _, _, _, ST⟩
  case round =>
    obtain ⟨pre, st, f, L, VV⟩ := hrel
    have hrow := VV.out.row
    have hstl := VV.out.stl
    have hfuel := VV.out.fuel
    have hpl := VV.out.pl
    have hwr := VV.out.g.size
    cases st with
    | nil =>
      change wr.ownsRow _ _ 1 _ 0 [] at hrow
      have hL : L = [] := by have h := VV.out.tw; simp only [todo] at h; cases h; rfl
      have hall : vis σ (r + 1) [t] = pre := by have h := VV.out.all_; rw [hL, vis_nil, List.append_nil] at h; exact h.symm
      have PN : Hid (posA v 0 (vis σ (r + 1) [t]) < 0 ∧ (vis σ (r + 1) [t]).length ≤ r) := Lib.hid (by rw [hall]; exact ⟨VV.out.none_, hpl⟩)
      have HALL := Lib.hid hall
      clear hL hall
      have c0 := VV.out.u.c0
      have b0 := VV.out.bx.c0
      have b1 := VV.out.bx.c1
      have b2 := VV.out.bx.c2
      have b3 := VV.out.bx.c3
      rcases _root_.Go.Joins.ownsRow_forms hrow with ⟨rfl, _⟩ | ⟨g, cg, rfl⟩
      all_goals
        clear hrow
        go_upto_region 13 with fail
        go_still_tail 6, (by kernel_rfl)
        have hD : Below wr.heap.size wr wr.drew := (Below.refl _ _).drew
        have U2 := Lib.hid (VV.out.u.below hD)
        have GG := Lib.hid (VV.out.g.one.trans (.of_below hD) : G2 KB S w wr.drew)
        change wpList _ _ _ _ _ wr.drew
        generalize wr.drew = w2 at hD U2 GG ⊢
        clear c0 b0 b1 b2 b3 hD
        go_wp2_with fail
        refine (bind_any S σ n w2 U2.out.sub hn v HV.out t OK.out (At_g2 GG.out TK.out TS.out AT.out) hsz).mono ?_
        intro e w3 hBd
        obtain rfl := hBd.out
        have GR := Lib.hid (GG.out.trans (.of_S hBd.grown))
        by_cases hv0 : v < 0
        · have hE : bindE σ v t = 1 := by unfold bindE; rw [if_pos hv0]
          rw [hE]
          have BN : Hid (bnd (4096 - m) σ v t = .no) := Lib.hid (by rw [← RR.out]; unfold bnd; rw [if_neg (by have := PN.out.1; omega), if_neg (by have := PN.out.2; omega), if_pos hv0])
          clear hBd hE
          go_wp2
          go_ret
          exact UBound.mk_no GR.out BN.out
        · have hE : bindE σ v t = 0 := bind_zero_of (by omega) (by omega) FREE.out PN.out.1 PN.out.2
          obtain ⟨x, hxt, hS, hxa⟩ := hBd.yes hE
          have XA := Lib.hid (AtP_imp (fun b _ hb => Nat.le_trans GG.out.size hb) (AtB_atP hxa) : Ts.AtP (fun b => w.heap.size ≤ b) w3 x.p x.kids)
          rw [hE]
          have BN : Hid (bnd (4096 - m) σ v t = .ok (r - pre.length)) := Lib.hid (by rw [← RR.out]; unfold bnd; rw [if_neg (by have := PN.out.1; omega), if_neg (by have := PN.out.2; omega), if_neg hv0, HALL.out])
          have UO : Hid (UAt KB S (σ.put v x) (n + 1) (4096 - (r - pre.length)) w3) := Lib.hid (by
            rw [show 4096 - (r - pre.length) = m + pre.length by omega]
            exact ⟨(hBd.grown.block KB U2.out.lt (fun e => U2.out.ne (by cases e; rfl))).trans U2.out.cell, hS, U2.out.ne⟩)
          have XT := Lib.hid hxt
          clear hBd hE hS hxt hxa
          go_wp2
          go_ret
          exact UBound.mk_ok GR.out BN.out XT.out UO.out XA.out
    | cons e st =>
      obtain ⟨g, cg, rfl⟩ := _root_.Go.Joins.ownsRow_form hrow (Nat.succ_pos _)
      have hce := hrow.cellAt st.length (by simp)
      have hcell : wr.cell? ⟨g, st.length, none⟩ = some e.val := by rw [hce]; simp
      have hfr := hrow.frozenAt st.length
      have hgb := hrow.lt g rfl
      have hcgl : st.length + 1 ≤ cg := by
        rcases hrow.2 with ⟨h, _⟩ | ⟨g', c', cur, h, _, _, h2, _⟩
        · cases h
        · cases h; exact h2
      have ROW := Lib.hid hrow
      clear hce hrow
      obtain ⟨ep, ets, ec⟩ := e
      obtain ⟨hne, ⟨hec, hec2⟩, hoke, hate, hels⟩ := VV.out.ents _ (List.mem_cons_self ..)
      obtain ⟨kk, s1, nn, pp, cc, kids, rest, rfl⟩ := elems_ne hne
      obtain ⟨b, o, hpo, hb, l0, l1, l2, l3, hlk, hlr⟩ := hate
      obtain rfl : ep = some ⟨b, o, none⟩ := by
        rcases hpo with h | h
        · cases h
        · exact h
      simp only [Ent.val, List.length_cons, Ts.len] at hcell hstl hec
      simp only [List.length_cons]
      change ec ≤ 9223372036854775807 at hec2
      have hec0 : 0 < ec := by omega
      have hnn : -9223372036854775808 ≤ nn ∧ nn ≤ 9223372036854775807 := hoke.2.2.1
      have hgne : g ≠ b := by simpa [Value.ownBlock] using hb
      have hkz : kids.size ≤ 5000 := hels ⟨kk, s1, nn, pp, cc, kids⟩ (by simp [elems])
      have hidx : ((st.length : Nat) : Int) < (st.length : Int) + 1 := by omega
      have hbw : b < wr.heap.size := World.block_lt_of_cell? _ _ l0
      have HOK := Lib.hid hoke
      have HEL := Lib.hid hels
      have LK : Hid (Ts.AtP (fun x => g ≠ x) wr pp kids) := Lib.hid (by
        have h : Ts.AtP (fun b => (Value.slice (some ⟨g, 0, none⟩) (st.length + 1) cg).ownBlock ≠ some b) wr pp kids := hlk
        exact AtP_imp (fun x _ hx => by simpa [Value.ownBlock] using hx) h)
      have LR : Hid (Ts.liesP (fun x => g ≠ x) wr b (o + 4) rest) := Lib.hid (liesP_imp (fun x _ hx => by simpa [Value.ownBlock] using hx) rest hlr)
      have UR := Lib.hid VV.out.u
      clear hpo hb hlk hlr hoke hels hne
      go_upto_region 4 with fail
      go_wp2_with fail
      refine (uwalk_any KB S σ n _ wr UR.out (fun x => g ≠ x) (fun x hx => by omega) ⟨kk, s1, nn, pp, cc, kids⟩ ⟨HOK.out.1, HOK.out.2.1, HOK.out.2.2.1, HOK.out.2.2.2.1, HOK.out.2.2.2.2.1, HOK.out.2.2.2.2.2.1, trivial⟩ LK.out hkz).mono ?_
      rintro e wa ⟨val, rfl, hWO, hBa⟩
      obtain ⟨us, q1, d1, rfl, hwat, hwtw, hwok, hwcap, hwnn⟩ := hWO
      obtain ⟨Xk, Xs, Xn, hXk, hXs, hXn⟩ : ∃ (a : Int) (s : ByteArray) (n : Int), a = (wk σ ⟨kk, s1, nn, pp, cc, kids⟩).k ∧ s = (wk σ ⟨kk, s1, nn, pp, cc, kids⟩).s ∧ n = (wk σ ⟨kk, s1, nn, pp, cc, kids⟩).n := ⟨_, _, _, rfl, rfl, rfl⟩
      have hxn : -9223372036854775808 ≤ Xn ∧ Xn ≤ 9223372036854775807 := by
        rw [hXn]
        exact (UR.out.sub.wk_ok (t := ⟨kk, s1, nn, pp, cc, kids⟩) ⟨HOK.out.1, HOK.out.2.1, HOK.out.2.2.1, HOK.out.2.2.2.1, HOK.out.2.2.2.2.1, HOK.out.2.2.2.2.2.1, trivial⟩ (AtP_at LK.out) hkz).2.2.1
      have hxsz : us.size ≤ 5000 := by
        rw [Ts.twin_size _ _ hwtw]
        exact (UR.out.sub.walked (t := ⟨kk, s1, nn, pp, cc, kids⟩) ⟨AtP_at LK.out, ⟨HOK.out.1, HOK.out.2.1, HOK.out.2.2.1, HOK.out.2.2.2.1, HOK.out.2.2.2.2.1, HOK.out.2.2.2.2.2.1, trivial⟩, hkz⟩).2.2
      have XTW : Hid (Nd.twin ⟨Xk, Xs, Xn, q1, d1, us⟩ (wk σ ⟨kk, s1, nn, pp, cc, kids⟩)) := Lib.hid ⟨hXk, hXs, hXn, hwtw⟩
      rw [← hXk, ← hXs, ← hXn]
      unfold tv
      obtain ⟨T, hT⟩ : ∃ T, T = wa.heap.size := ⟨_, rfl⟩
      obtain ⟨W5, hW5⟩ : ∃ W5, W5 = wa.alloc (.cells #[.int .u8 Xk, .string Xs, .int .i64 Xn, .slice q1 us.len d1] 25) := ⟨_, rfl⟩
      have hB5 : Below wa.heap.size wa W5 := by rw [hW5]; exact (Below.refl _ _).alloc (Nat.le_refl _) _
      have BX5 : Hid (BoxIs T ⟨Xk, Xs, Xn, q1, d1, us⟩ W5) := Lib.hid (by rw [hT, hW5]; exact BoxIs.new wa ⟨Xk, Xs, Xn, q1, d1, us⟩ _)
      have hs5 : W5.heap.size = T + 1 := by rw [hW5, hT]; simp
      have hTr : wr.heap.size ≤ T := by rw [hT]; exact hBa.size
      have hB15 : Below wr.heap.size wr W5 := hBa.trans (hB5.mono hBa.size)
      have LK5 : Hid (Ts.AtP (fun x => g ≠ x) W5 q1 us) := Lib.hid (hwat.stay fun x _ hx => hB5.block x hx)
      have XOK := Lib.hid (And.intro hwok (And.intro hwcap hwnn))
      have Z5 := Lib.hid hW5
      have U5 := Lib.hid (UR.out.below hB15)
      have B15 := Lib.hid hB15
      have hgc := (World.cell?_of_block (a := ⟨g, st.length, none⟩) (hB15.block g hgb.2)).trans hcell
      have hgf := (World.frozen?_of_block (a := ⟨g, st.length, none⟩) (hB15.block g hgb.2)).trans hfr
      have hg5 : g < W5.heap.size := Nat.lt_of_lt_of_le hgb.2 hB15.size
      clear hXk hXs hXn hwat hwtw hwok hwcap hwnn hBa hB5 hB15 hcell hfr l0 l1 l2 l3
      go_upto_region 5 with fail
      rw [← Z5.out, ← hT]
      clear hT hW5
      have HS5 := Lib.hid hs5
      clear hs5
      go_cut [] from 13 to 63 (fun w5 => ∃ (q : Option Addr) (c' : Nat), Hid (w5 = W5.setCell ⟨g, st.length, none⟩ (.slice q rest.len c')) ∧ (rest.len ≤ c' ∧ c' ≤ 9223372036854775807) ∧ Hid (Ts.AtP (fun x => g ≠ x) wr q rest))
      case first =>
        by_cases hec1 : ec = 1
        · have hrn : rest = .nil := Ts.len_zero (by omega)
          have RN := Lib.hid hrn
          clear hrn
          go_wp2_with fail
          go_meet
          exact ⟨some ⟨b, o, none⟩, 0, Lib.hid rfl, by rw [RN.out]; exact ⟨Nat.le_refl _, by omega⟩, Lib.hid (by rw [RN.out]; exact ⟨0, 0, .inl rfl, trivial⟩)⟩
        · go_wp2_with fail
          go_meet
          exact ⟨some ⟨b, o + 4, none⟩, ec - 1, Lib.hid rfl, by omega, Lib.hid ⟨b, o + 4, .inr rfl, LR.out⟩⟩
      case rest =>
      rename World => w5
      obtain ⟨q, c', W6, hq, ATQ⟩ := hcut
      have hrow0 := ownsRow_block ROW.out (B15.out.block g hgb.2)
      simp only [List.reverse_cons, List.map_append, List.map_cons, List.map_nil, List.length_cons] at hrow0
      obtain ⟨hrowS, hgrS⟩ := hrow0.stored st.length (.slice q rest.len c')
      rw [set_last _ _ _ _ (by simp), ← W6.out] at hrowS
      rw [← W6.out] at hgrS
      have hs6 : w5.heap.size = W5.heap.size := by rw [W6.out]; simp
      have hwr5 : wr.heap.size ≤ W5.heap.size := B15.out.size
      have hfar : ∀ x, g ≠ x → x < wr.heap.size → w5.heap[x]? = wr.heap[x]? := fun x hx hlt =>
        (hgrS.block x (by omega) (fun e => hx (by cases e; rfl))).trans (B15.out.block x hlt)
      have G5 : Hid (G2 KB KB w w5) := Lib.hid ((VV.out.g.trans (.of_below B15.out)).fresh hgrS (by omega))
      have U6 : Hid (UAt KB S σ n (m + pre.length) w5) := Lib.hid ⟨(hgrS.block KB U5.out.lt (fun e => by cases e; omega)).trans U5.out.cell, UU.out.sub.g1 G5.out TK.out (fun e => UU.out.ne e.symm), UU.out.ne⟩
      have BX6 : Hid (BoxIs T ⟨Xk, Xs, Xn, q1, d1, us⟩ w5) := Lib.hid (BX5.out.of_block (hgrS.block T BX5.out.lt (fun e => by cases e; omega)))
      have BT6 : Hid (BoxIs w.heap.size t w5) := Lib.hid (VV.out.bx.of_block (hfar _ (by omega) (by omega)))
      have ENT : Hid (∀ e ∈ st, e.ts ≠ .nil ∧ (e.ts.len ≤ e.c ∧ e.c ≤ 9223372036854775807) ∧ e.ts.ok ∧ Ts.AtP (fun x => g ≠ x) w5 e.p e.ts ∧ (∀ x ∈ elems e.ts, x.kids.size ≤ 5000)) := Lib.hid fun e he => by
        obtain ⟨h1, h2, h3, h4, h5⟩ := VV.out.ents e (List.mem_cons_of_mem _ he)
        exact ⟨h1, h2, h3, (AtP_imp (fun x _ hx => by simpa [Value.ownBlock] using hx) h4 : Ts.AtP (fun x => g ≠ x) wr e.p e.ts).stay hfar, h5⟩
      have ATQ6 : Hid (Ts.AtP (fun x => g ≠ x) w5 q rest) := Lib.hid (ATQ.out.stay hfar)
      have LK6 : Hid (Ts.AtP (fun x => g ≠ x) w5 q1 us) := Lib.hid (LK5.out.stay fun x hx hlt => hgrS.block x hlt (fun e => hx (by cases e; rfl)))
      have ROW6 := Lib.hid hrowS
      clear hrow0 hrowS hgrS hfar hgc hgf W6 BX5 LK5 ATQ U5
      go_step
      go_step
      go_cut [7] from 13 to 63 (fun s7 w6 => ∃ st' : List Ent, s7 = .slice (some ⟨g, 0, none⟩) st'.length cg ∧ Hid (w6 = w5) ∧ Hid (w5.ownsRow (w.heap.size + 1) 23 1 (.slice (some ⟨g, 0, none⟩) st'.length cg) st'.length (st'.reverse.map Ent.val)) ∧
        Hid (∀ e ∈ st', e.ts ≠ .nil ∧ (e.ts.len ≤ e.c ∧ e.c ≤ 9223372036854775807) ∧ e.ts.ok ∧ Ts.AtP (fun x => g ≠ x) w5 e.p e.ts ∧ (∀ x ∈ elems e.ts, x.kids.size ≤ 5000)) ∧ Hid (todo st' = elems rest ++ todo st) ∧ st'.length ≤ st.length + 1)
      case first =>
        have hfr5 := ROW6.out.frozenAt st.length
        have hc6 : w5.cell? ⟨g, st.length, none⟩ = some (.slice q rest.len c') := by rw [ROW6.out.cellAt st.length (by simp)]; simp
        by_cases hr0 : ((rest.len : Int) == 0) = true
        · have hrn : rest = .nil := Ts.len_zero (by simp at hr0; omega)
          have RN := Lib.hid hrn
          clear hrn
          go_wp2_with fail
          go_meet
          exact ⟨st, rfl, Lib.hid rfl, Lib.hid (ownsRow_pop (by simp) ROW6.out), ENT, Lib.hid (by rw [RN.out]; simp [elems]), by omega⟩
        · rw [Bool.not_eq_true] at hr0
          have hrn : rest ≠ .nil := fun e => by rw [e] at hr0; simp [Ts.len] at hr0
          have RN := Lib.hid hrn
          clear hrn
          go_wp2_with fail
          go_meet
          refine ⟨⟨q, rest, c'⟩ :: st, rfl, Lib.hid rfl, Lib.hid (by simpa [Ent.val] using ROW6.out), Lib.hid fun e he => ?_, Lib.hid rfl, by simp⟩
          rcases List.mem_cons.1 he with rfl | he
          · exact ⟨RN.out, hq, HOK.out.2.2.2.2.2.2, ATQ6.out, fun x hx => HEL.out x (by simp [elems, hx])⟩
          · exact ENT.out e he
      case rest =>
      obtain ⟨st', rfl, W6, ROW7, ENT7, TD7, hst'⟩ := hcut
      have hw6 := W6.out
      subst hw6
      clear W6
      rename World => w6
      have htwL := VV.out.tw
      have hallL := VV.out.all_
      simp only [todo, elems, List.cons_append] at htwL
      obtain ⟨l0, L', rfl, hl0, hL'⟩ : ∃ l0 L', L = l0 :: L' ∧ Nd.twin ⟨kk, s1, nn, pp, cc, kids⟩ l0 ∧ TwL (elems rest ++ todo st) L' := by
        cases htwL with
        | cons h1 h2 => exact ⟨_, _, rfl, h1, h2⟩
      obtain ⟨f', rfl⟩ : ∃ f', f = f' + 1 := ⟨f - 1, by omega⟩
      have hX : Nd.twin ⟨Xk, Xs, Xn, q1, d1, us⟩ (wk σ l0) := Nd.twin_trans XTW.out (wk_tw UU.out.sub.ends hl0)
      have ALL : Hid (pre ++ wk σ l0 :: vis σ f' (elems (wk σ l0).kids ++ L') = vis σ (r + 1) [t]) := Lib.hid hallL
      have XL := Lib.hid hX
      have TL := Lib.hid hL'
      clear htwL hallL hl0 hX hL'
      by_cases hful : pre.length = r
      · have BN : Hid (bnd (4096 - m) σ v t = .full) := Lib.hid (by
          have hf0 : f' = 0 := by omega
          have h1 : pre ++ [wk σ l0] = vis σ (r + 1) [t] := by have h := ALL.out; rw [hf0] at h; exact h
          rw [← RR.out]
          unfold bnd
          rw [← h1, posA_app, if_pos VV.out.none_]
          rw [if_neg (by split <;> omega), if_pos (by simp; omega)])
        have hm4 : m + pre.length = 4096 := by omega
        have HM4 := Lib.hid hm4
        clear hful hm4
        go_wp2_with fail
        refine (visit_full KB S σ n _ w6 U6.out HM4.out).mono ?_
        rintro e w7 ⟨rfl, rfl⟩
        have GR := Lib.hid ((G5.out.trans (.of_K (seen_grown KB (m + pre.length) w6))).one : G2 KB S w _)
        go_wp2
        exact ⟨rfl, UBound.mk_full GR.out BN.out⟩
      · go_wp2_with fail
        refine (visit_go KB S σ n _ w6 U6.out (by omega)).mono ?_
        rintro e w7 ⟨rfl, hw7⟩
        have hgK : g ≠ KB := by omega
        have hTK : T ≠ KB := by omega
        have hsg : w6.grownBy w7 (some KB) := by rw [hw7]; exact seen_grown _ _ _
        have hg2 : G2 KB KB w6 w7 := .of_K hsg
        have U7 : Hid (UAt KB S σ n (m + (pre.length + 1)) w7) := Lib.hid (by rw [hw7]; exact U6.out.seen)
        have TK6 := U6.out.tinyK
        have G7 := Lib.hid (G5.out.trans hg2)
        have BX7 := Lib.hid (BX6.out.g2 hg2 hTK hTK)
        have BT7 := Lib.hid (BT6.out.g2 hg2 (by omega) (by omega))
        have ROW8 := Lib.hid (ownsRow_block ROW7.out (hsg.block g (by have := ROW7.out.lt g rfl; omega) (fun e => hgK (by cases e; rfl))))
        have ENT8 : Hid (∀ e ∈ st', e.ts ≠ .nil ∧ (e.ts.len ≤ e.c ∧ e.c ≤ 9223372036854775807) ∧ e.ts.ok ∧ Ts.AtP (fun x => g ≠ x) w7 e.p e.ts ∧ (∀ x ∈ elems e.ts, x.kids.size ≤ 5000)) := Lib.hid fun e he => by
          obtain ⟨h1, h2, h3, h4, h5⟩ := ENT7.out e he
          exact ⟨h1, h2, h3, AtP_g2 hg2 TK6 TK6 h4, h5⟩
        have LK7 := Lib.hid (AtP_g2 hg2 TK6 TK6 LK6.out)
        have hs7 : w6.heap.size ≤ w7.heap.size := hg2.size
        clear hw7 hsg hg2 TK6 U6 G5 BX6 BT6 ROW6 ROW7 ENT ENT7 ATQ6 LK6
        have c0 := BX7.out.c0
        have c1 := BX7.out.c1
        have c2 := BX7.out.c2
        have c3 := BX7.out.c3
        simp only at c0 c1 c2 c3
        obtain ⟨hit, hhit⟩ : ∃ hit, hit = ((Xk == 1) && (Xn == v)) := ⟨_, rfl⟩
        have HIT := Lib.hid hhit
        have HITL : Hid ((((wk σ l0).k == 1) && ((wk σ l0).n == v)) = hit) := Lib.hid (by rw [hhit, ← XL.out.1, ← XL.out.2.2.1])
        clear hhit
        go_upto_region 9 with fail
        go_cut [54] from 13 to 63 (fun s54 wx => s54 = .bool hit ∧ wx = w7)
        case first =>
          by_cases e1 : (Xk == 1) = true
          · by_cases e2 : (Xn == v) = true
            · have hh : Hid (hit = true) := Lib.hid (by rw [HIT.out, e1, e2]; rfl)
              go_wp2_with fail
              go_meet
              exact ⟨by rw [hh.out], rfl⟩
            · rw [Bool.not_eq_true] at e2
              have hh : Hid (hit = false) := Lib.hid (by rw [HIT.out, e1, e2]; rfl)
              go_wp2_with fail
              go_meet
              exact ⟨by rw [hh.out], rfl⟩
          · rw [Bool.not_eq_true] at e1
            have hh : Hid (hit = false) := Lib.hid (by rw [HIT.out, e1]; rfl)
            go_wp2_with fail
            go_meet
            exact ⟨by rw [hh.out], rfl⟩
        case rest =>
        obtain ⟨rfl, hw8⟩ := hcut
        have hw8 := hw8.symm
        subst hw8
        cases hit with
        | true =>
          have BN : Hid (bnd (4096 - m) σ v t = .no) := Lib.hid (by
            rw [← RR.out]
            unfold bnd
            rw [← ALL.out, posA_hit v _ _ HITL.out pre 0 VV.out.none_, if_pos (by omega)])
          go_wp2
          go_ret
          exact UBound.mk_no G7.out.one BN.out
        | false =>
          have hpl2 : pre.length + 1 ≤ r := by omega
          have NN : Hid (posA v 0 (pre ++ [wk σ l0]) < 0) := Lib.hid (posA_none HITL.out VV.out.none_)
          have AL2 : Hid ((pre ++ [wk σ l0]) ++ vis σ f' (elems (wk σ l0).kids ++ L') = vis σ (r + 1) [t]) := Lib.hid (by rw [List.append_assoc]; exact ALL.out)
          have TW2 : Hid (TwL (elems us ++ todo st') (elems (wk σ l0).kids ++ L')) := Lib.hid ((elems_tw XL.out.2.2.2).app (by rw [TD7.out]; exact TL.out))
          have U8 : Hid (UAt KB S σ n (m + (pre ++ [wk σ l0]).length) w7) := Lib.hid (by simpa using U7.out)
          have hub : us.len ≤ 5000 := Nat.le_trans (Ts.len_size _) hxsz
          by_cases hk0 : (0 < us.len)
          · have hkn : us ≠ .nil := fun e => by rw [e] at hk0; simp [Ts.len] at hk0
            have hk0' : (0 : Int) < (us.len : Int) := by omega
            have KN := Lib.hid hkn
            clear hkn
            obtain ⟨i0, hi, hz0, hz1, hz2⟩ := info_parts infoTerms
            go_wp2_with (at_builtin; refine wpList_append_own_at _ rfl _ _ 118 rfl (w.heap.size + 1) 23 i0 (.slice none 0 0) 1 24 Tryz.underlying118 hi hz0 hz1 hz2 rfl (by decide) _ _ _ rfl (ROW8.out.alloc _) ⟨w7.heap.size, 0, none⟩ 1 1 [.slice q1 us.len d1] rfl rfl (cell_one_new _ _ _) (by simp [Value.oneCell']) (by unfold maxLen; omega) (by omega) (by simp; omega) ?_; intro v' w8 hown' hgrow hnil hob; obtain ⟨g', cap', rfl⟩ := ownsRow_succ hown')
            have hgr : (w7.alloc (.cells #[.slice q1 us.len d1] 23)).grownBy w8 (some g) := hgrow
            have hB7 : Below w7.heap.size w7 (w7.alloc (.cells #[.slice q1 us.len d1] 23)) := (Below.refl _ _).alloc (Nat.le_refl _) _
            have hsz8 : w7.heap.size + 1 ≤ w8.heap.size := by have := hgr.size; simpa using this
            have hfar : ∀ x, (g ≠ x ∧ x < w7.heap.size) → x < w7.heap.size → w8.heap[x]? = w7.heap[x]? := fun x hx hlt =>
              (hgr.block x (by simp; omega) (fun e => hx.1 (by cases e; rfl))).trans (hB7.block x hlt)
            have hown2 : ∀ x, x < w7.heap.size → g ≠ x → g' ≠ x := fun x hx hgx => by
              rcases hob with e | e
              · have e2 : some g' = some g := e
                injection e2 with e2
                omega
              · have e2 : some g' = some (w7.alloc (.cells #[.slice q1 us.len d1] 23)).heap.size := e
                injection e2 with e2
                rw [World.size_alloc] at e2
                omega
            have imp : ∀ {p : Option Addr} {ts : Ts}, Ts.AtP (fun x => g ≠ x) w7 p ts → Ts.AtP (fun b => (Value.slice (some ⟨g', 0, none⟩) (st'.length + 1) cap').ownBlock ≠ some b) w8 p ts := fun h =>
              AtP_imp (fun x _ hx => by simp only [Value.ownBlock, ne_eq, Option.some.injEq]; exact hown2 x hx.2 hx.1) ((AtP_imp (fun x hl hx => ⟨hx, hl⟩) h : Ts.AtP (fun x => g ≠ x ∧ x < w7.heap.size) w7 _ _).stay hfar)
            have G8 : G2 KB KB w w8 := (G7.out.trans (.of_below hB7)).fresh hgr (by omega)
            have hK7 : KB < w7.heap.size := U8.out.lt
            have UF : UAt KB S σ n (m + (pre ++ [wk σ l0]).length) w8 := ⟨(hfar KB ⟨by omega, hK7⟩ hK7).trans U8.out.cell, UU.out.sub.g1 G8 TK.out (fun e => UU.out.ne e.symm), UU.out.ne⟩
            refine ⟨⟨pre ++ [wk σ l0], ⟨q1, us, d1⟩ :: st', f', elems (wk σ l0).kids ++ L', Lib.hid ⟨by simpa [Ent.val] using hown', fun e he => ?_, TW2.out, AL2.out, by simp; omega, NN.out, by simpa using hpl2, UF, G8, BT7.out.of_block (hfar _ ⟨by omega, BT7.out.lt⟩ BT7.out.lt), by simp; omega⟩⟩, ?_⟩
            · rcases List.mem_cons.1 he with rfl | he
              · exact ⟨KN.out, XOK.out.2.1, XOK.out.1, imp LK7.out, fun x hx => Nat.le_trans (Nat.le_of_lt (elems_small hx)) hxsz⟩
              · obtain ⟨h1, h2, h3, h4, h5⟩ := ENT8.out e he
                exact ⟨h1, h2, h3, imp h4, h5⟩
            · rw [UF.far, VV.out.u.far]
              simp only [List.length_append, List.length_cons, List.length_nil]
              omega
          · have hkn : us = .nil := Ts.len_zero (by omega)
            have KN := Lib.hid hkn
            clear hkn
            go_wp2_with fail
            refine ⟨⟨pre ++ [wk σ l0], st', f', elems (wk σ l0).kids ++ L', Lib.hid ⟨ROW8.out, fun e he => ?_, ?_, AL2.out, by simp; omega, NN.out, by simpa using hpl2, U8.out, G7.out, BT7.out, by simp; omega⟩⟩, ?_⟩
            · obtain ⟨h1, h2, h3, h4, h5⟩ := ENT8.out e he
              exact ⟨h1, h2, h3, AtP_imp (fun x _ hx => by simpa [Value.ownBlock] using hx) h4, h5⟩
            · have h := TW2.out
              rw [KN.out] at h
              exact h
            · rw [U8.out.far, VV.out.u.far]
              simp only [List.length_append, List.length_cons, List.length_nil]
              omega

end Go.Proofs.YtnmhnaanpjlniaaGreat
/-
  Layer 4: what stands while two terms are walked and put into boxes, in whatever order. (Written by gen_cf.py.)
-/
namespace Go.Proofs.YtnmhnaanpjlniaaGreat
open Go.RowKit

/-- a box of its own, with nothing in it yet -/
def ZB (B0 : Nat) (v : Value) (w : World) : Prop := ∃ T, v = .pointer (some ⟨T, 0, none⟩) ∧ B0 ≤ T ∧ BoxIs T ⟨0, ⟨#[]⟩, 0, none, 0, .nil⟩ w

/-- a box, with a term in it -/
def FB (B0 : Nat) (v u : Value) (w : World) : Prop := ∃ T k s n p len c, v = .pointer (some ⟨T, 0, none⟩) ∧ u = tv k s n p len c ∧ B0 ≤ T ∧ T < w.heap.size ∧
  w.cell? ⟨T, 0, none⟩ = some (.int .u8 k) ∧ w.cell? ⟨T, 1, none⟩ = some (.string s) ∧ w.cell? ⟨T, 2, none⟩ = some (.int .i64 n) ∧ w.cell? ⟨T, 3, none⟩ = some (.slice p len c)

theorem ZB.below {B0 : Nat} {v : Value} {w w' : World} (h : ZB B0 v w) (hB : Below w.heap.size w w') : ZB B0 v w' := by
  obtain ⟨T, h1, h2, h3⟩ := h
  exact ⟨T, h1, h2, h3.below hB⟩

theorem FB.of_block {B0 T : Nat} {v u : Value} {w w' : World} (h : FB B0 v u w) (hs : w.heap.size ≤ w'.heap.size) (hb : ∀ b, b < w.heap.size → b ≠ T → w'.heap[b]? = w.heap[b]?) (hne : v ≠ .pointer (some ⟨T, 0, none⟩)) : FB B0 v u w' := by
  obtain ⟨T', k, s, n, p, len, c, rfl, h2, h0, h3, c0, c1, c2, c3⟩ := h
  have e := fun y => World.cell?_of_block (a := ⟨T', y, none⟩) (hb T' h3 (fun e => hne (by rw [e])))
  exact ⟨T', k, s, n, p, len, c, rfl, h2, h0, by omega, (e _).trans c0, (e _).trans c1, (e _).trans c2, (e _).trans c3⟩

theorem FB.below {B0 : Nat} {v u : Value} {w w' : World} (h : FB B0 v u w) (hB : Below w.heap.size w w') : FB B0 v u w' := by
  obtain ⟨T', k, s, n, p, len, c, rfl, h2, h0, h3, c0, c1, c2, c3⟩ := h
  exact ⟨T', k, s, n, p, len, c, rfl, h2, h0, Nat.lt_of_lt_of_le h3 hB.size, ((stays hB).1 _ _ h3).trans c0, ((stays hB).1 _ _ h3).trans c1, ((stays hB).1 _ _ h3).trans c2, ((stays hB).1 _ _ h3).trans c3⟩

theorem ZB.of_block {B0 T : Nat} {v : Value} {w w' : World} (h : ZB B0 v w) (hb : ∀ b, b < w.heap.size → b ≠ T → w'.heap[b]? = w.heap[b]?) (hne : v ≠ .pointer (some ⟨T, 0, none⟩)) : ZB B0 v w' := by
  obtain ⟨T', rfl, h2, h3⟩ := h
  exact ⟨T', rfl, h2, h3.of_block (hb T' h3.lt (fun e => hne (by rw [e])))⟩

theorem zb_alloc {B0 : Nat} {W : World} {ty : TypeId} (hB : B0 ≤ W.heap.size) : ZB B0 (.pointer (some ⟨W.heap.size, 0, none⟩)) (W.alloc (.cells #[.int .u8 0, .string ⟨#[]⟩, .int .i64 0, .slice none 0 0] ty)) :=
  ⟨_, rfl, hB, BoxIs.new W ⟨0, ⟨#[]⟩, 0, none, 0, .nil⟩ ty⟩

theorem zb_other {B0 : Nat} {v : Value} {W : World} (h : ZB B0 v W) : v ≠ .pointer (some ⟨W.heap.size, 0, none⟩) := by
  obtain ⟨T, rfl, _, h3⟩ := h
  intro e
  injection e with e
  injection e with e
  injection e with e
  have := h3.lt
  omega

/-- blocks that no box of these is -/
def AV (L : Nat → Bool) (f : Nat → Value) (P : Nat → Prop) (b : Nat) : Prop := P b ∧ (L 8 = true → f 8 ≠ .pointer (some ⟨b, 0, none⟩)) ∧ (L 9 = true → f 9 ≠ .pointer (some ⟨b, 0, none⟩))

theorem WOf.imp {P Q : Nat → Prop} {x : Nd} {v : Value} {w : World} (h : WOf P x v w) (hi : ∀ b, b < w.heap.size → P b → Q b) : WOf Q x v w := by
  obtain ⟨us, q, d, h1, h2, h3⟩ := h
  exact ⟨us, q, d, h1, AtP_imp hi h2, h3⟩
theorem WOf.of_block {P : Nat → Prop} {T : Nat} {x : Nd} {v : Value} {w w' : World} (h : WOf P x v w) (hb : ∀ b, b < w.heap.size → b ≠ T → w'.heap[b]? = w.heap[b]?) (hP : ∀ b, P b → b ≠ T) : WOf P x v w' := by
  obtain ⟨us, q, d, h1, h2, h3⟩ := h
  exact ⟨us, q, d, h1, h2.stay fun b hp hl => hb b hl (hP b hp), h3⟩

structure GU (Ws : World) (P : Nat → Prop) (kb pa pb va vb : Value) (x y : Nd) (L : Nat → Bool) (f : Nat → Value) (W : World) : Prop where
  B : Below Ws.heap.size Ws W
  f0 : L 0 = true → f 0 = kb
  f1 : L 1 = true → f 1 = pa
  f2 : L 2 = true → f 2 = va
  f3 : L 3 = true → WOf (AV L f P) x (f 3) W
  f4 : L 4 = true → f 4 = kb
  f5 : L 5 = true → f 5 = pb
  f6 : L 6 = true → f 6 = vb
  f7 : L 7 = true → WOf (AV L f P) y (f 7) W
  f8 : L 8 = true → L 10 = false → ZB Ws.heap.size (f 8) W
  f9 : L 9 = true → L 11 = false → ZB Ws.heap.size (f 9) W
  ne : L 8 = true → L 9 = true → f 8 ≠ f 9
  w10 : L 10 = true → L 8 = true ∧ L 3 = true ∧ L 9 = true ∧ L 7 = true ∧ FB Ws.heap.size (f 8) (f 3) W
  w11 : L 11 = true → L 10 = true ∧ FB Ws.heap.size (f 9) (f 7) W

theorem GU.keep {Ws : World} {P : Nat → Prop} {kb pa pb va vb : Value} {x y : Nd} {L : Nat → Bool} {f : Nat → Value} {W W' : World} (h : GU Ws P kb pa pb va vb x y L f W) (hB : Below W.heap.size W W') : GU Ws P kb pa pb va vb x y L f W' :=
  ⟨h.B.trans (hB.mono h.B.size), h.f0, h.f1, h.f2, fun a => (h.f3 a).below hB, h.f4, h.f5, h.f6, fun a => (h.f7 a).below hB, fun a b => (h.f8 a b).below hB, fun a b => (h.f9 a b).below hB, h.ne,
    fun a => ⟨(h.w10 a).1, (h.w10 a).2.1, (h.w10 a).2.2.1, (h.w10 a).2.2.2.1, (h.w10 a).2.2.2.2.below hB⟩, fun a => ⟨(h.w11 a).1, (h.w11 a).2.below hB⟩⟩

theorem noU {b : Bool} {p : Prop} (h : b = true) (h' : b = false) : p := by rw [h] at h'; cases h'

section
variable {Ws : World} {P : Nat → Prop} {kb pa pb va vb : Value} {x y : Nd} {L : Nat → Bool} {f : Nat → Value} {W : World}

theorem AV.same {L L' : Nat → Bool} {f f' : Nat → Value} (h8 : L' 8 = L 8) (h9 : L' 9 = L 9) (g8 : f' 8 = f 8) (g9 : f' 9 = f 9) : AV L' f' P = AV L f P := by
  funext b
  unfold AV
  rw [h8, h9, g8, g9]
theorem GU.set0 {v : Value} (h : GU Ws P kb pa pb va vb x y L f W) (_hi : L 0 = false) (hv : v = kb) : GU Ws P kb pa pb va vb x y (updL L 0) (upd f 0 v) W :=
  ⟨h.B, fun _ => hv, h.f1, h.f2, h.f3, h.f4, h.f5, h.f6, h.f7, h.f8, h.f9, h.ne, h.w10, h.w11⟩

theorem GU.set1 {v : Value} (h : GU Ws P kb pa pb va vb x y L f W) (_hi : L 1 = false) (hv : v = pa) : GU Ws P kb pa pb va vb x y (updL L 1) (upd f 1 v) W :=
  ⟨h.B, h.f0, fun _ => hv, h.f2, h.f3, h.f4, h.f5, h.f6, h.f7, h.f8, h.f9, h.ne, h.w10, h.w11⟩

theorem GU.set2 {v : Value} (h : GU Ws P kb pa pb va vb x y L f W) (_hi : L 2 = false) (hv : v = va) : GU Ws P kb pa pb va vb x y (updL L 2) (upd f 2 v) W :=
  ⟨h.B, h.f0, h.f1, fun _ => hv, h.f3, h.f4, h.f5, h.f6, h.f7, h.f8, h.f9, h.ne, h.w10, h.w11⟩

theorem GU.set3 {v : Value} (h : GU Ws P kb pa pb va vb x y L f W) (hi : L 3 = false) (hv : WOf (AV L f P) x v W) : GU Ws P kb pa pb va vb x y (updL L 3) (upd f 3 v) W :=
  ⟨h.B, h.f0, h.f1, h.f2, fun _ => hv, h.f4, h.f5, h.f6, h.f7, h.f8, h.f9, h.ne, fun a => noU (h.w10 a).2.1 hi, h.w11⟩

theorem GU.set4 {v : Value} (h : GU Ws P kb pa pb va vb x y L f W) (_hi : L 4 = false) (hv : v = kb) : GU Ws P kb pa pb va vb x y (updL L 4) (upd f 4 v) W :=
  ⟨h.B, h.f0, h.f1, h.f2, h.f3, fun _ => hv, h.f5, h.f6, h.f7, h.f8, h.f9, h.ne, h.w10, h.w11⟩

theorem GU.set5 {v : Value} (h : GU Ws P kb pa pb va vb x y L f W) (_hi : L 5 = false) (hv : v = pb) : GU Ws P kb pa pb va vb x y (updL L 5) (upd f 5 v) W :=
  ⟨h.B, h.f0, h.f1, h.f2, h.f3, h.f4, fun _ => hv, h.f6, h.f7, h.f8, h.f9, h.ne, h.w10, h.w11⟩

theorem GU.set6 {v : Value} (h : GU Ws P kb pa pb va vb x y L f W) (_hi : L 6 = false) (hv : v = vb) : GU Ws P kb pa pb va vb x y (updL L 6) (upd f 6 v) W :=
  ⟨h.B, h.f0, h.f1, h.f2, h.f3, h.f4, h.f5, fun _ => hv, h.f7, h.f8, h.f9, h.ne, h.w10, h.w11⟩

theorem GU.set7 {v : Value} (h : GU Ws P kb pa pb va vb x y L f W) (hi : L 7 = false) (hv : WOf (AV L f P) y v W) : GU Ws P kb pa pb va vb x y (updL L 7) (upd f 7 v) W :=
  ⟨h.B, h.f0, h.f1, h.f2, h.f3, h.f4, h.f5, h.f6, fun _ => hv, h.f8, h.f9, h.ne, fun a => noU (h.w10 a).2.2.2.1 hi, fun a => noU (h.w10 (h.w11 a).1).2.2.2.1 hi⟩

theorem GU.new8 (h : GU Ws P kb pa pb va vb x y L f W) (hi : L 8 = false) (ty : TypeId) : GU Ws P kb pa pb va vb x y (updL L 8) (upd f 8 (.pointer (some ⟨W.heap.size, 0, none⟩))) (W.alloc (.cells #[.int .u8 0, .string ⟨#[]⟩, .int .i64 0, .slice none 0 0] ty)) := by
  have hB : Below W.heap.size W (W.alloc (.cells #[.int .u8 0, .string ⟨#[]⟩, .int .i64 0, .slice none 0 0] ty)) := (Below.refl _ _).alloc (Nat.le_refl _) _
  have k := h.keep hB
  have tr : ∀ b, b < W.heap.size → AV L f P b → AV (updL L 8) (upd f 8 (.pointer (some ⟨W.heap.size, 0, none⟩))) P b := fun b hb hp => ⟨hp.1, fun _ e => by
    have e : Value.pointer (some ⟨W.heap.size, 0, none⟩) = Value.pointer (some ⟨b, 0, none⟩) := e
    injection e with e
    injection e with e
    injection e with e
    omega, hp.2.2⟩
  refine ⟨k.B, k.f0, k.f1, k.f2, fun a => ((h.f3 a).imp tr).below hB, k.f4, k.f5, k.f6, fun a => ((h.f7 a).imp tr).below hB, fun _ _ => zb_alloc h.B.size, k.f9, fun _ b => ?_, fun a => noU (h.w10 a).1 hi, k.w11⟩
  cases h11 : L 11 with
  | false => exact (zb_other (h.f9 b h11)).symm
  | true => exact noU (h.w10 (h.w11 h11).1).1 hi

theorem GU.new9 (h : GU Ws P kb pa pb va vb x y L f W) (hi : L 9 = false) (ty : TypeId) : GU Ws P kb pa pb va vb x y (updL L 9) (upd f 9 (.pointer (some ⟨W.heap.size, 0, none⟩))) (W.alloc (.cells #[.int .u8 0, .string ⟨#[]⟩, .int .i64 0, .slice none 0 0] ty)) := by
  have hB : Below W.heap.size W (W.alloc (.cells #[.int .u8 0, .string ⟨#[]⟩, .int .i64 0, .slice none 0 0] ty)) := (Below.refl _ _).alloc (Nat.le_refl _) _
  have k := h.keep hB
  have tr : ∀ b, b < W.heap.size → AV L f P b → AV (updL L 9) (upd f 9 (.pointer (some ⟨W.heap.size, 0, none⟩))) P b := fun b hb hp => ⟨hp.1, hp.2.1, fun _ e => by
    have e : Value.pointer (some ⟨W.heap.size, 0, none⟩) = Value.pointer (some ⟨b, 0, none⟩) := e
    injection e with e
    injection e with e
    injection e with e
    omega⟩
  refine ⟨k.B, k.f0, k.f1, k.f2, fun a => ((h.f3 a).imp tr).below hB, k.f4, k.f5, k.f6, fun a => ((h.f7 a).imp tr).below hB, k.f8, fun _ _ => zb_alloc h.B.size, fun a _ => ?_, fun a => noU (h.w10 a).2.2.1 hi, fun a => noU (h.w10 (h.w11 a).1).2.2.1 hi⟩
  cases h10 : L 10 with
  | false => exact zb_other (h.f8 a h10)
  | true => exact noU (h.w10 h10).2.2.1 hi
end

/-- a term put into an empty box -/
theorem zb_store {B0 : Nat} {v : Value} {W : World} {k : Int} {s : ByteArray} {n : Int} {p : Option Addr} {len c : Nat} (h : ZB B0 v W) :
    ∃ T, v = .pointer (some ⟨T, 0, none⟩) ∧ B0 ≤ T ∧ BoxIs T ⟨0, ⟨#[]⟩, 0, none, 0, .nil⟩ W ∧ ∃ W', W' = ((((W.setCell ⟨T, 0, none⟩ (.int .u8 k)).setCell ⟨T, 1, none⟩ (.string s)).setCell ⟨T, 2, none⟩ (.int .i64 n)).setCell ⟨T, 3, none⟩ (.slice p len c)) ∧
      FB B0 v (tv k s n p len c) W' ∧ W'.heap.size = W.heap.size ∧ (∀ b, b < W.heap.size → b ≠ T → W'.heap[b]? = W.heap[b]?) ∧ (∀ (w : World), Below B0 w W → Below B0 w W') := by
  obtain ⟨T, rfl, h2, h3⟩ := h
  have hl := h3.lt
  obtain ⟨W', hW, hs, ho, _, c0, c1, c2, c3, hf, hb⟩ := put4 W T 0 (.int .u8 k) (.string s) (.int .i64 n) (.slice p len c) (by rw [h3.c0]; rfl) (by rw [h3.c1]; rfl) (by rw [h3.c2]; rfl) (by rw [h3.c3]; rfl)
  refine ⟨T, rfl, h2, h3, W', hW, ⟨T, k, s, n, p, len, c, rfl, rfl, h2, by omega, c0, c1, c2, c3⟩, hs, fun b _ hne => ?_, fun w => hb B0 w h2⟩
  rw [hW, Below.heap_setCell _ _ _ _ (by simpa using hne), Below.heap_setCell _ _ _ _ (by simpa using hne), Below.heap_setCell _ _ _ _ (by simpa using hne), Below.heap_setCell _ _ _ _ (by simpa using hne)]

theorem FB.cells {B0 : Nat} {v : Value} {k : Int} {s : ByteArray} {n : Int} {p : Option Addr} {len c : Nat} {w : World} (h : FB B0 v (tv k s n p len c) w) : ∃ T, v = .pointer (some ⟨T, 0, none⟩) ∧ B0 ≤ T ∧ T < w.heap.size ∧
    w.cell? ⟨T, 0, none⟩ = some (.int .u8 k) ∧ w.cell? ⟨T, 1, none⟩ = some (.string s) ∧ w.cell? ⟨T, 2, none⟩ = some (.int .i64 n) ∧ w.cell? ⟨T, 3, none⟩ = some (.slice p len c) := by
  obtain ⟨T, k', s', n', p', len', c', e1, e2, h1, h2, c0, c1, c2, c3⟩ := h
  unfold tv at e2
  injection e2 with e2
  simp only [Array.mk.injEq, List.cons.injEq, Value.int.injEq, Value.string.injEq, Value.slice.injEq, true_and, and_true] at e2
  obtain ⟨rfl, rfl, rfl, rfl, rfl, rfl⟩ := e2
  exact ⟨T, e1, h1, h2, c0, c1, c2, c3⟩

theorem zb_past {B0 : Nat} {v : Value} {W : World} (h : ZB B0 v W) {b : Nat} (hb : W.heap.size ≤ b) (e : v = .pointer (some ⟨b, 0, none⟩)) : False := by
  obtain ⟨T, rfl, _, h3⟩ := h
  injection e with e
  injection e with e
  injection e with e
  have := h3.lt
  omega
theorem zb_old {B0 : Nat} {v : Value} {W : World} (h : ZB B0 v W) {b : Nat} (hb : b < B0) (e : v = .pointer (some ⟨b, 0, none⟩)) : False := by
  obtain ⟨T, rfl, h2, h3⟩ := h
  injection e with e
  injection e with e
  injection e with e
  omega

/-- two terms in a box -/
structure PairIs (N : Nat) (a b : Nd) (w : World) : Prop where
  c0 : w.cell? ⟨N, 0, none⟩ = some (.int .u8 a.k)
  c1 : w.cell? ⟨N, 1, none⟩ = some (.string a.s)
  c2 : w.cell? ⟨N, 2, none⟩ = some (.int .i64 a.n)
  c3 : w.cell? ⟨N, 3, none⟩ = some (.slice a.p a.kids.len a.c)
  c4 : w.cell? ⟨N, 4, none⟩ = some (.int .u8 b.k)
  c5 : w.cell? ⟨N, 5, none⟩ = some (.string b.s)
  c6 : w.cell? ⟨N, 6, none⟩ = some (.int .i64 b.n)
  c7 : w.cell? ⟨N, 7, none⟩ = some (.slice b.p b.kids.len b.c)
  fr : ∀ i, w.frozen? ⟨N, i, none⟩ = false

def pairV (a b : Nd) : Value := .agg #[.int .u8 a.k, .string a.s, .int .i64 a.n, .slice a.p a.kids.len a.c, .int .u8 b.k, .string b.s, .int .i64 b.n, .slice b.p b.kids.len b.c]
def zeroN : Nd := ⟨0, ⟨#[]⟩, 0, none, 0, .nil⟩

theorem PairIs.lt {N : Nat} {a b : Nd} {w : World} (h : PairIs N a b w) : N < w.heap.size := World.block_lt_of_cell? _ _ h.c0
theorem PairIs.of_block {N : Nat} {a b : Nd} {w w' : World} (h : PairIs N a b w) (hb : w'.heap[N]? = w.heap[N]?) : PairIs N a b w' := by
  have e := fun y => World.cell?_of_block (a := ⟨N, y, none⟩) hb
  exact ⟨(e _).trans h.c0, (e _).trans h.c1, (e _).trans h.c2, (e _).trans h.c3, (e _).trans h.c4, (e _).trans h.c5, (e _).trans h.c6, (e _).trans h.c7, fun i => (World.frozen?_of_block (a := ⟨N, i, none⟩) hb).trans (h.fr i)⟩
theorem PairIs.below {N : Nat} {a b : Nd} {w w' : World} (h : PairIs N a b w) (hB : Below w.heap.size w w') : PairIs N a b w' := h.of_block (hB.block _ h.lt)
theorem PairIs.new (w : World) (a b : Nd) (t : TypeId) : PairIs w.heap.size a b (w.alloc (.cells #[.int .u8 a.k, .string a.s, .int .i64 a.n, .slice a.p a.kids.len a.c, .int .u8 b.k, .string b.s, .int .i64 b.n, .slice b.p b.kids.len b.c] t)) := by
  obtain ⟨W, hW, hs, hB, hc, hf⟩ := alloc_new w #[.int .u8 a.k, .string a.s, .int .i64 a.n, .slice a.p a.kids.len a.c, .int .u8 b.k, .string b.s, .int .i64 b.n, .slice b.p b.kids.len b.c] t
  rw [← hW]
  exact ⟨hc 0 _ rfl, hc 1 _ rfl, hc 2 _ rfl, hc 3 _ rfl, hc 4 _ rfl, hc 5 _ rfl, hc 6 _ rfl, hc 7 _ rfl, hf⟩

end Go.Proofs.YtnmhnaanpjlniaaGreat
/-
  A law for a region that draws its order and writes one known block: facts that a relation between worlds keeps.
-/
namespace Go.Proofs.YtnmhnaanpjlniaaGreat
open Go.RowKit

def RStepR (P : Program) (ops : Array Oper) (Q : Exit → Act → World → Prop) (frame : (Nat → Value) → Act) (ρ : World → World → Prop) (I : World → Prop) (F : Nat → Value → World → Prop) (i : Nat) (o : Oper) : Prop :=
  ∀ (f : Nat → Value) (w : World), I w → (∀ j, waitsOn o j = true → F j (f j) w) → ∀ K : Act → World → Prop, Hid (∀ v a' w', a' = (frame f).put o.dst v → I w' → ρ w w' → F i v w' → K a' w') →
    if Region.wanted o (yielded ops (frame f).tmps) = true then Oper.wp P o (frame f) w K Q else K ((frame f).put o.dst undef) w

def RStepsR (P : Program) (ops : Array Oper) (Q : Exit → Act → World → Prop) (frame : (Nat → Value) → Act) (ρ : World → World → Prop) (I : World → Prop) (F : Nat → Value → World → Prop) : List Oper → Nat → Prop
  | [], _ => True
  | o :: l, i => RStepR P ops Q frame ρ I F i o ∧ RStepsR P ops Q frame ρ I F l (i + 1)

theorem RStepsR.gsteps {P : Program} {ops : Array Oper} {Q : Exit → Act → World → Prop} {frame : (Nat → Value) → Act} {ρ : World → World → Prop} {I : World → Prop} {F : Nat → Value → World → Prop} (hρ : ∀ j u w w', F j u w → ρ w w' → F j u w') : ∀ {l : List Oper} {k : Nat}, RStepsR P ops Q frame ρ I F l k → GSteps P ops Q frame (fun M f W => I W ∧ ∀ j, M j = true → F j (f j) W) l k
  | [], _, _ => trivial
  | o :: l, k, h => by
    refine ⟨?_, RStepsR.gsteps hρ h.2⟩
    intro M f w hMi hwait hG K hK
    refine h.1 f w hG.1 (fun j hj => hG.2 j (hwait j hj)) K (Lib.hid fun v a' w' ha hI hr hF => hK.out v a' w' ha ⟨hI, fun j hj => ?_⟩)
    simp only [updL, upd] at hj ⊢
    by_cases e : j = k
    · subst e; rw [if_pos rfl]; exact hF
    · rw [if_neg e] at hj ⊢
      exact hρ _ _ _ _ (hG.2 j hj) hr

theorem region_by_rel {P : Program} {ops : Array Oper} {Q : Exit → Act → World → Prop} {id : Nat} {a : Act} {w : World} (ρ : World → World → Prop) (I : World → Prop) (L : List (Value → World → Prop)) (hρ : ∀ j u w w', factOf L j u w → ρ w w' → factOf L j u w') (hm : P.follows .mixedOrders = true) (hdag : dagB ops.toList 0 = true) (hap : apartB ops.toList = true)
    (h0 : I w.drew) (hstep : RStepsR P ops Q (frameOf a ops.toList 0) ρ I (factOf L) ops.toList 0)
    (hdone : ∀ f w, I w → (∀ j, j < ops.size → factOf L j (f j) w) → Q .normal (frameOf a ops.toList 0 f) w) : (Code.region id ops true).wp P Q a w :=
  region_by_inv (fun M f W => I W ∧ ∀ j, M j = true → factOf L j (f j) W) hm hdag hap (fun _ => ⟨h0, fun _ h => by cases h⟩) (hstep.gsteps hρ) fun M f W hall hG => hdone f W hG.1 fun j hj => hG.2 j (hall j hj)

def Keeps (ρ : World → World → Prop) (p : Value → World → Prop) : Prop := ∀ v w w', p v w → ρ w w' → p v w'
def KeepsAll (ρ : World → World → Prop) : List (Value → World → Prop) → Prop
  | [] => True
  | p :: l => Keeps ρ p ∧ KeepsAll ρ l
theorem Keeps.eq {ρ : World → World → Prop} (u : Value) : Keeps ρ fun v _ => v = u := fun _ _ _ h _ => h
theorem factOf_keeps {ρ : World → World → Prop} : ∀ {L : List (Value → World → Prop)}, KeepsAll ρ L → ∀ i, Keeps ρ (factOf L i)
  | [], _, _ => fun _ _ _ _ _ => trivial
  | _ :: _, h, 0 => h.1
  | _ :: l, h, i + 1 => factOf_keeps (L := l) h.2 i

/-- one block turns, and what is to stand in it stays when it has come -/
structure TurnsTo (R : Nat) (F : World → Prop) (w w' : World) : Prop where
  g : G2 R R w w'
  f : F w → F w'

theorem G2.fresh2 {KB S R : Nat} {w a b : World} (h : G2 KB S w a) (hg : G2 R R a b) (hge : w.heap.size ≤ R) : G2 KB S w b :=
  ⟨hg.os.trans h.os, hg.tape.trans h.tape, hg.output.trans h.output, Nat.le_trans h.size hg.size, fun k hk h1 h2 => (hg.block k (Nat.lt_of_lt_of_le hk h.size) (by omega) (by omega)).trans (h.block k hk h1 h2)⟩

end Go.Proofs.YtnmhnaanpjlniaaGreat
