import Derived.Test.YtflomdnjabgnaaaCk
import Derived.Deep.CutBlock
import Derived.Recover
import Derived.Laws.Pointers
import Derived.Test.YtflomdnjabgnaaaAm
/-
  Layer 4: pairs, one behind the other.
-/
namespace Go.Proofs.Ytflomdnjabgnaaa
open Go.RowKit

theorem block_new (w : World) (o : Obj) : (w.alloc o).heap[w.heap.size]? = some o := Array.getElem?_push_size

theorem infoRest : (Try.prog.info? 110).map (fun i => (i.zero, i.size, i.bytes)) = some (some (.agg #[.slice none 0 0, .slice none 0 0]), 2, 48) := by kernel_rfl

theorem cell_two_new (w : World) (x y : Value) (t : TypeId) : ∀ j u, [x, y][j]? = some u → (w.alloc (.cells #[x, y] t)).cell? ((⟨w.heap.size, 0, none⟩ : Addr).add j) = some u := by
  intro j u hj
  match j, hj with
  | 0, hj => simp at hj; subst hj; simp [Addr.add]
  | 1, hj => simp at hj; subst hj; simp [Addr.add]

theorem UList.no_below {KB S : Nat} {σ : Sb} {n m : Nat} {L : List (Nd × Nd)} {w w' w2 : World} (h : UList KB S σ n m w L (.returned (.bool false)) w') (hB : Below w'.heap.size w' w2) : UList KB S σ n m w L (.returned (.bool false)) w2 := by
  obtain ⟨h1, h2⟩ := h
  refine ⟨h1.trans (.of_below hB), ?_⟩
  cases e : un (4096 - m) n σ L with
  | full => rw [e] at h2; cases h2
  | no => rfl
  | ok ρ c r => rw [e] at h2; cases h2.1

theorem LMid.start {KB S : Nat} {σ : Sb} {n m : Nat} {w W0 : World} (hU : UAt KB S σ n m w) (hm : m ≤ 4096) {pa : Option Addr} {ta : Ts} {ca : Nat} {pb : Option Addr} {tb : Ts} {cb : Nat} (hlen : ta.len = tb.len) (ha : EntOk (fun _ => True) ⟨pa, ta, ca⟩ w) (hb : EntOk (fun _ => True) ⟨pb, tb, cb⟩ w)
    (hW0 : W0 = (w.alloc (.cells #[.slice pa ta.len ca, .slice pb tb.len cb] 110)).alloc (.cells #[.slice (some ⟨w.heap.size, 0, none⟩) 1 1] 111)) :
    LMid KB S σ n m (pairsOf [(⟨pa, ta, ca⟩, ⟨pb, tb, cb⟩)]) w (w.heap.size + 1) (.slice (some ⟨w.heap.size, 0, none⟩) 1 1) [(⟨pa, ta, ca⟩, ⟨pb, tb, cb⟩)] (pairsOf [(⟨pa, ta, ca⟩, ⟨pb, tb, cb⟩)]) σ n m W0 := by
  have hB : Below w.heap.size w W0 := by
    rw [hW0]
    exact ((Below.refl _ _).alloc (Nat.le_refl _) _).alloc (by simp) _
  have hrow := World.ownsRow_lit (base := w.heap.size) (e := 110) (size := 2) w #[.slice pa ta.len ca, .slice pb tb.len cb] 1 (by simp) (by unfold maxLen; omega) rfl
  have hrow2 := own_below hrow (w' := W0) (by rw [hW0]; exact (Below.refl _ _).alloc (Nat.le_refl _) _)
  have imp : ∀ {x : Ent}, EntOk (fun _ => True) x w → EntOk (fun b => (Value.slice (some ⟨w.heap.size, 0, none⟩) 1 1).ownBlock ≠ some b) x W0 := fun h =>
    h.imp (fun b _ hb => hB.block b hb) (fun b _ hb => by simp only [Value.ownBlock, ne_eq, Option.some.injEq]; omega)
  refine ⟨⟨?_, ?_, fun e he => ?_, ⟨by simp [Value.ownBlock], hB.size⟩⟩, by omega, ⟨hU.below hB, Out.tw_refl _, hm, by omega, .of_below hB, ⟨hU.lt, hU.sub.lt⟩⟩, by simp, fun x t hx => .inl ⟨hx, ?_⟩⟩
  · have := block_new (w.alloc (.cells #[.slice pa ta.len ca, .slice pb tb.len cb] 110)) (.cells #[.slice (some ⟨w.heap.size, 0, none⟩) 1 1] 111)
    rw [World.size_alloc, ← hW0] at this
    exact this
  · simpa [cellsRE, Ent.val] using hrow2
  · obtain rfl : e = (⟨pa, ta, ca⟩, ⟨pb, tb, cb⟩) := by simpa using he
    exact ⟨hlen, imp ha, imp hb⟩
  · exact ((hU.sub.at_ x t hx).1.atP).stay fun b hb _ => hB.block b hb

set_option maxRecDepth 100000 in
set_option maxHeartbeats 8000000 in
theorem lists_any (KB S : Nat) (σ : Sb) (n m : Nat) (w : World) (hU : UAt KB S σ n m w) (hm : m ≤ 4096) (hn : n ≤ 900000) (pa : Option Addr) (ta : Ts) (ca : Nat) (pb : Option Addr) (tb : Ts) (cb : Nat) (hlen : ta.len = tb.len) (ha : EntOk (fun _ => True) ⟨pa, ta, ca⟩ w) (hb : EntOk (fun _ => True) ⟨pb, tb, cb⟩ w) :
    Calls Try.prog 69 #[.pointer (some ⟨KB, 0, none⟩), .slice pa ta.len ca, .slice pb tb.len cb] w (UList KB S σ n m w (pairsOf [(⟨pa, ta, ca⟩, ⟨pb, tb, cb⟩)])) := by
  obtain ⟨W0, hW0⟩ : ∃ W0, W0 = (w.alloc (.cells #[.slice pa ta.len ca, .slice pb tb.len cb] 110)).alloc (.cells #[.slice (some ⟨w.heap.size, 0, none⟩) 1 1] 111) := ⟨_, rfl⟩
  have M0 := Lib.hid (LMid.start hU hm hlen ha hb hW0)
  obtain ⟨L, hL⟩ : ∃ L, pairsOf [((⟨pa, ta, ca⟩, ⟨pb, tb, cb⟩) : Ent × Ent)] = L := ⟨_, rfl⟩
  have HL := Lib.hid hL
  have Z0 := Lib.hid hW0
  have hKl := hU.lt
  have hSl := hU.sub.lt
  have UU := Lib.hid hU
  rw [hL]
  clear hW0 hU hm hlen ha hb hL
  go_enter Try.func69, Try.ntmps69
  go_wp2_with fail
  rw [← Z0.out]
  obtain ⟨LX, EX⟩ := M0.out.ents (Below.refl _ _)
  refine (next_any w.heap.size (w.heap.size + 1) W0.heap.size _ _ W0 LX (by simp) (Nat.le_refl _) EX).mono ?_
  clear LX EX
  intro e wa hN
  have hsa : W0.heap.size ≤ wa.heap.size := hN.1.size
  obtain ⟨a, b, bo, rfl, hH⟩ := M0.out.head (Below.refl _ _) hN (NB := wa.heap.size) hsa
  have HD := Lib.hid (hH (wa.alloc (.cells #[.int .u8 a.k, .string a.s, .int .i64 a.n, .slice a.p a.kids.len a.c, .int .u8 b.k, .string b.s, .int .i64 b.n, .slice b.p b.kids.len b.c] 113)) (.of_below ((Below.refl _ _).alloc (Nat.le_refl _) _)) (PairIs.new wa a b _))
  rw [HL.out] at HD
  clear hN hH
  unfold pairV
  obtain ⟨W1, hW1⟩ : ∃ W1, W1 = wa.alloc (.cells #[.int .u8 a.k, .string a.s, .int .i64 a.n, .slice a.p a.kids.len a.c, .int .u8 b.k, .string b.s, .int .i64 b.n, .slice b.p b.kids.len b.c] 113) := ⟨_, rfl⟩
  rw [← hW1] at HD
  have Z1 := Lib.hid hW1
  have I0 : Hid (LHead KB S σ n m L w (w.heap.size + 1) wa.heap.size a b bo σ n m W1) := HD
  clear hW1 M0 HD UU
  go_upto_block 0 with fail
  rw [← Z1.out]
  go_step
  go_loopw [9, 10] (fun s9 s10 wr => ∃ (NB : Nat) (a b : Nd) (bo : Bool) (σp : Sb) (n' m' : Nat), s9 = .pointer (some ⟨NB, 0, none⟩) ∧ s10 = .bool bo ∧ Hid (LHead KB S σ n m L w (w.heap.size + 1) NB a b bo σp n' m' wr)) (fun _ _ wr => visFar KB wr)
  case atStart =>
    exact ⟨_, a, b, bo, σ, n, m, rfl, rfl, I0⟩
  case round =>
    clear I0 Z1
    obtain ⟨NB, a, b, bo, σp, n', m', rfl, rfl, H⟩ := hrel
    rename World => wr
    cases bo with
    | false =>
      obtain ⟨HF, HA⟩ := H.out.no rfl
      have UL := Lib.hid (UList.mk_ok HF HA)
      clear HF HA
      go_wp2
      go_ret
      exact UL.out
    | true =>
      obtain ⟨v, st, M, A, B, hv⟩ := H.out.yes rfl
      have MM := Lib.hid M
      have AA := Lib.hid A
      have BB := Lib.hid B
      have HV := Lib.hid hv
      have c0 := H.out.bx.c0
      have c1 := H.out.bx.c1
      have c2 := H.out.bx.c2
      have c3 := H.out.bx.c3
      have c4 := H.out.bx.c4
      have c5 := H.out.bx.c5
      have c6 := H.out.bx.c6
      have c7 := H.out.bx.c7
      have hm' := M.f.m_
      have hn' := M.f.n_
      have hwr := M.f.g.size
      have hsl := M.sl
      clear M A B hv
      go_upto_block 1 with fail
      go_cut [11, 12] from 23 to 52 (fun _ _ wx => ∃ (v : Value) (st : List (Ent × Ent)) (σp : Sb) (n' m2 : Nat), m' < m2 ∧ Hid (LMid KB S σ n m L w (w.heap.size + 1) v st (pairsOf st) σp n' m2 wx) ∧ Hid (PairIs NB a b wx) ∧ Hid (v.ownBlock ≠ some NB))
      case first =>
        by_cases hful : m' = 4096
        · have HM := Lib.hid hful
          clear hful c0 c1 c2 c3 c4 c5 c6 c7
          have c0 := H.out.bx.c0
          have c1 := H.out.bx.c1
          have c2 := H.out.bx.c2
          have c3 := H.out.bx.c3
          have c4 := H.out.bx.c4
          have c5 := H.out.bx.c5
          have c6 := H.out.bx.c6
          have c7 := H.out.bx.c7
          go_wp2_with fail
          refine (uone_full KB S σp n' m' wr H.out.uu HM.out a b).mono ?_
          rintro e wc ⟨rfl, hg⟩
          have UL : Hid (UList KB S σ n m w L (.panicked fullP) wc) := Lib.hid (by have h := MM.out; rw [HM.out] at h; exact h.step_full hg)
          clear hg
          go_wp2
          exact ⟨rfl, UL.out⟩
        · have hm4 : m' < 4096 := by omega
          clear hful
          go_wp2_with fail
          refine (uone_any KB S σp n' m' wr H.out.uu hm4 (by omega) (fun b => v.ownBlock ≠ some b) (fun x hx e => by have := (MM.out.l.own_lt e).2; omega) a b AA.out.1 BB.out.1 AA.out.2.1 BB.out.2.1 AA.out.2.2 BB.out.2.2).mono ?_
          intro e wc hO
          have HO := Lib.hid hO
          clear hO c0 c1 c2 c3 c4 c5 c6 c7
          rcases MM.out.step hm4 HO.out with ⟨rfl, hU⟩ | ⟨X, Y, rfl, hU⟩ | ⟨X, Y, σq, n2, m2, rfl, hm2, hg, M2, hlen, hX, hY⟩
          · have UL := Lib.hid hU
            clear hU HO
            go_wp2
            exact ⟨rfl, UL.out⟩
          · have UL := Lib.hid hU
            clear hU HO
            unfold pairV
            go_wp2
            go_ret
            exact UL.out.no_below ((Below.refl _ _).alloc (Nat.le_refl _) _)
          · have BXC := Lib.hid (H.out.bx.of_block (hg.block NB H.out.bx.lt (by have := H.out.far.1; omega) (by have := H.out.far.1; omega)))
            have XX := Lib.hid hX
            have YY := Lib.hid hY
            have HL2 := Lib.hid hlen
            have M3 := Lib.hid M2
            have hXl : X.kids.len ≤ 5000 := Nat.le_trans (Ts.len_size _) hX.2.2.2.2
            have hsc : wr.heap.size ≤ wc.heap.size := hg.size
            have hst2 := M2.sl
            obtain ⟨pv, cv, hpv⟩ : ∃ (p : Option Addr) (c : Nat), v = .slice p st.length c := by
              rcases ownsRow2 M2.l.row with ⟨rfl, h0⟩ | ⟨g, c, rfl, _⟩
              · exact ⟨none, 0, by rw [h0]⟩
              · exact ⟨_, _, rfl⟩
            subst hpv
            clear hX hY hlen M2 hg HO
            unfold pairV
            obtain ⟨W5, hW5⟩ : ∃ W5, W5 = wc.alloc (.cells #[.int .u8 X.k, .string X.s, .int .i64 X.n, .slice X.p X.kids.len X.c, .int .u8 Y.k, .string Y.s, .int .i64 Y.n, .slice Y.p Y.kids.len Y.c] 113) := ⟨_, rfl⟩
            have hB5 : Below wc.heap.size wc W5 := by rw [hW5]; exact (Below.refl _ _).alloc (Nat.le_refl _) _
            have PX : PairIs wc.heap.size X Y W5 := by rw [hW5]; exact PairIs.new wc X Y _
            have hs5 : W5.heap.size = wc.heap.size + 1 := by rw [hW5]; simp
            have x3 := PX.c3
            have x7 := PX.c7
            have M5 := Lib.hid (M3.out.below hB5)
            have B5 := Lib.hid hB5
            have cl := cell_of_one M5.out.l.box
            have fl := free_of_one M5.out.l.box
            have hLl : w.heap.size + 1 < wc.heap.size := lt_of_block M3.out.l.box
            have hT : wc.heap.size < W5.heap.size := by omega
            have hw5 : w.heap.size + 1 < W5.heap.size := by omega
            have hnb5 : NB < W5.heap.size := Nat.lt_of_lt_of_le BXC.out.lt hB5.size
            have Z5 := Lib.hid hW5
            have HS5 := Lib.hid hs5
            obtain ⟨T, hT0⟩ : ∃ T, T = wc.heap.size := ⟨_, rfl⟩
            have HT := Lib.hid hT0
            rw [← hT0] at x3 x7 hT
            clear hB5 PX hW5 hs5 hT0
            go_upto_region 9 with fail
            rw [← Z5.out, ← HT.out]
            by_cases h0 : 0 < X.kids.len
            · have h0' : (0 : Int) < (X.kids.len : Int) := by omega
              have hsl3 : st.length ≤ m2 := by omega
              have hm3 := M3.out.f.m_
              obtain ⟨i0, hi, hz0, hz1, hz2⟩ := info_parts infoRest
              go_wp2_with (at_builtin; refine wpList_append_own_at _ rfl _ _ 111 rfl w.heap.size 110 i0 (.agg #[.slice none 0 0, .slice none 0 0]) 2 48 Try.underlying111 hi hz0 hz1 hz2 rfl (by decide) _ _ _ rfl (M5.out.l.row.alloc _) ⟨W5.heap.size, 0, none⟩ 1 1 [.slice X.p X.kids.len X.c, .slice Y.p Y.kids.len Y.c] rfl rfl (cell_two_new _ _ _ _) (by simp [Value.oneCell']) (by unfold maxLen; omega) (by omega) (by simp; omega) ?_; intro v' w8 hown' hgrow hnil hob; obtain ⟨g8, c8, rfl⟩ := _root_.Go.Joins.ownsRow_form hown' (Nat.succ_pos _); have X8 := Lib.hid (And.intro hown' (And.intro hgrow hob)); have bl8 := ((hgrow.block (w.heap.size + 1) (by simp; omega) (fun e => M5.out.l.base_.1 e.symm)).trans (((Below.refl _ _).alloc (Nat.le_refl _) _ : Below W5.heap.size W5 (W5.alloc _)).block _ (by omega) |>.trans M5.out.l.box)); have fl8 := free_of_one bl8; have cl8 := cell_of_one bl8; clear bl8; clear hown' hgrow hnil hob)
              go_meet
              have hrow8 := X8.out.1
              have hgr8 := X8.out.2.1
              have hob8 := X8.out.2.2
              have hB6 : Below wc.heap.size wc (W5.alloc (.cells #[.slice X.p X.kids.len X.c, .slice Y.p Y.kids.len Y.c] 110)) := B5.out.trans ((Below.refl _ _).alloc B5.out.size _)
              refine ⟨_, _, σq, n2, m2, hm2, Lib.hid (M3.out.push HL2.out XX.out YY.out hsl3 hB6 hgr8 hrow8 hob8), Lib.hid (BXC.out.of_block ?_), Lib.hid ?_⟩
              · exact ((grown_set w8 (w.heap.size + 1) 0 _).block NB (Nat.lt_of_lt_of_le (Nat.lt_of_lt_of_le BXC.out.lt hB6.size) hgr8.size) (fun e => H.out.far.2 (by cases e; rfl))).trans ((hgr8.block NB (Nat.lt_of_lt_of_le BXC.out.lt hB6.size) (fun e => HV.out e.symm)).trans (hB6.block NB BXC.out.lt))
              · rcases hob8 with e | e
                · rw [e]; exact HV.out
                · rw [e, World.size_alloc]; intro e2; injection e2 with e2; omega
            · have hxn : X.kids = .nil := Ts.len_zero (by omega)
              have XN := Lib.hid hxn
              have h0' : ¬ (0 : Int) < (X.kids.len : Int) := by omega
              clear hxn
              go_wp2_with fail
              go_meet
              refine ⟨_, st, σq, n2, m2, hm2, Lib.hid ?_, Lib.hid (BXC.out.below B5.out), HV⟩
              have h := M5.out
              rw [XN.out] at h
              exact h
      case rest =>
        clear MM AA BB HV c0 c1 c2 c3 c4 c5 c6 c7 hsl hn' hwr
        obtain ⟨v, st, σp, n', m2, hm2, MM, BX, HV⟩ := hcut
        have c0 := BX.out.c0
        have c1 := BX.out.c1
        have c2 := BX.out.c2
        have c3 := BX.out.c3
        have c4 := BX.out.c4
        have c5 := BX.out.c5
        have c6 := BX.out.c6
        have c7 := BX.out.c7
        obtain ⟨W7, hW7⟩ : ∃ W7, W7 = wc.alloc (.cells #[.int .u8 a.k, .string a.s, .int .i64 a.n, .slice a.p a.kids.len a.c, .int .u8 b.k, .string b.s, .int .i64 b.n, .slice b.p b.kids.len b.c] 113) := ⟨_, rfl⟩
        have hB7 : Below wc.heap.size wc W7 := by rw [hW7]; exact (Below.refl _ _).alloc (Nat.le_refl _) _
        have B7 := Lib.hid hB7
        have PX : Hid (PairIs wc.heap.size a b W7) := Lib.hid (by rw [hW7]; exact PairIs.new wc a b _)
        have Z7 := Lib.hid hW7
        have hm2' := MM.out.f.m_
        have hst2 := MM.out.sl
        clear hW7 hB7
        go_upto_region 5 with fail
        rw [← Z7.out]
        clear c0 c1 c2 c3 c4 c5 c6 c7
        go_wp2_with fail
        obtain ⟨LX, EX⟩ := MM.out.ents B7.out
        refine (next_any w.heap.size (w.heap.size + 1) wc.heap.size v st W7 LX (by omega) B7.out.size EX).mono ?_
        clear LX EX
        intro e wd hN
        obtain ⟨a2, b2, bo2, rfl, hH⟩ := MM.out.head B7.out hN (NB := wc.heap.size) (Nat.le_refl _)
        have PD := Lib.hid (PX.out.of_block (hN.1.block wc.heap.size PX.out.lt (by have := lt_of_block MM.out.l.box; omega) (fun e => by have := (MM.out.l.own_lt e).2; omega)))
        have HD := Lib.hid (hH (putP wd wc.heap.size a2 b2) (.of_K (putP_grown _ _ _ _)) PD.out.put)
        clear hN hH
        have c0 := PD.out.c0
        have c1 := PD.out.c1
        have c2 := PD.out.c2
        have c3 := PD.out.c3
        have c4 := PD.out.c4
        have c5 := PD.out.c5
        have c6 := PD.out.c6
        have c7 := PD.out.c7
        have cf := PD.out.fr
        unfold pairV
        go_wp2_with fail
        refine ⟨⟨wc.heap.size, a2, b2, bo2, σp, n', m2, rfl, rfl, HD⟩, ?_⟩
        have hf : visFar KB (putP wd wc.heap.size a2 b2) < visFar KB wr := by
          rw [HD.out.uu.far, H.out.uu.far]
          omega
        exact hf

end Go.Proofs.Ytflomdnjabgnaaa
/-
  Layer 4: what is recovered.
-/
namespace Go.Proofs.Ytflomdnjabgnaaa
open Go.RowKit

theorem caught_full (b0 b1 b2 : Nat) (x0 x1 x2 : Value) (w : World) (h0 : w.cell? ⟨b0, 0, none⟩ = some x0) (h1 : w.cell? ⟨b1, 0, none⟩ = some x1) (h2 : w.cell? ⟨b2, 0, none⟩ = some x2) (f0 : w.frozen? ⟨b0, 0, none⟩ = false) (f1 : w.frozen? ⟨b1, 0, none⟩ = false) (f2 : w.frozen? ⟨b2, 0, none⟩ = false) (h01 : b1 ≠ b0) (h02 : b2 ≠ b0) (h12 : b2 ≠ b1) :
    CallsD Try.prog 68 #[.pointer (some ⟨b0, 0, none⟩), .pointer (some ⟨b1, 0, none⟩), .pointer (some ⟨b2, 0, none⟩)] (.panicking fullP) w fun e u' w' =>
      e = .returned (.tuple #[]) ∧ u' = .panicking [{ v := .iface 125 (.agg #[]), recovered := true }] ∧ w' = ((w.setCell ⟨b0, 0, none⟩ (.pointer none)).setCell ⟨b1, 0, none⟩ (.bool false)).setCell ⟨b2, 0, none⟩ (.int .i64 31) := by
  refine callsD_of_wpS Try.func68 rfl fun c₀ cs hu => ?_
  unfold fullP at hu
  apply wpS_seq
  apply wpS_region
  simp [wpOpsS, go_sem, recoverD, hu, Try.ntmps68, Exit.thenS]
  refine wpS_cond (t := true) (by simp [Act.eval, Array.replicate]) ?_
  simp only [if_true]
  apply wpS_region
  simp [wpOpsS, go_sem, h0, h1, h2, f0, f1, f2, bodyPostS, results, Try.results68]

theorem caught_idle (b0 b1 b2 : Nat) (w : World) :
    CallsD Try.prog 68 #[.pointer (some ⟨b0, 0, none⟩), .pointer (some ⟨b1, 0, none⟩), .pointer (some ⟨b2, 0, none⟩)] .returning w fun e u' w' => e = .returned (.tuple #[]) ∧ u' = .returning ∧ w' = w := by
  refine callsD_of_wpS Try.func68 rfl fun c₀ cs hu => ?_
  apply wpS_seq
  apply wpS_region
  simp [wpOpsS, go_sem, recoverD, hu, Try.ntmps68, Exit.thenS]
  refine wpS_cond (t := false) (by simp [Act.eval, Array.replicate]) ?_
  simp only [Bool.false_eq_true, if_false]
  refine wpS_of_wp (wp_skip ?_)
  cases c₀
  simp_all [bodyPostS, results, Try.results68]

end Go.Proofs.Ytflomdnjabgnaaa
/-
  Layer 4: lists of terms, unified.
-/
namespace Go.Proofs.Ytflomdnjabgnaaa
open Go.RowKit

/-- three boxes, one cell each: what is told -/
structure TB (B : Nat) (x0 x1 x2 : Value) (w : World) : Prop where
  b0 : w.heap[B]? = some (.cells #[x0] 27 (0, 0))
  b1 : w.heap[B + 1]? = some (.cells #[x1] 4 (0, 0))
  b2 : w.heap[B + 1 + 1]? = some (.cells #[x2] 28 (0, 0))

/-- all three are written -/
def put3 (w : World) (B : Nat) (y0 y1 y2 : Value) : World := ((w.setCell ⟨B, 0, none⟩ y0).setCell ⟨B + 1, 0, none⟩ y1).setCell ⟨B + 1 + 1, 0, none⟩ y2

section
variable {B : Nat} {x0 x1 x2 y0 y1 y2 : Value} {w w' : World}
theorem TB.of_blocks (h : TB B x0 x1 x2 w) (h0 : w'.heap[B]? = w.heap[B]?) (h1 : w'.heap[B + 1]? = w.heap[B + 1]?) (h2 : w'.heap[B + 1 + 1]? = w.heap[B + 1 + 1]?) : TB B x0 x1 x2 w' := ⟨h0.trans h.b0, h1.trans h.b1, h2.trans h.b2⟩

theorem TB.put3 (h : TB B x0 x1 x2 w) : TB B y0 y1 y2 (put3 w B y0 y1 y2) := by
  have st : ∀ (w : World) (b k : Nat) (v : Value), k ≠ b → (w.setCell ⟨b, 0, none⟩ v).heap[k]? = w.heap[k]? := fun w b k v hk => Below.heap_setCell w ⟨b, 0, none⟩ v k hk
  refine ⟨?_, ?_, ?_⟩
  · unfold Go.Proofs.Ytflomdnjabgnaaa.put3
    rw [st _ _ _ _ (by omega), st _ _ _ _ (by omega)]
    exact one_setCell h.b0
  · unfold Go.Proofs.Ytflomdnjabgnaaa.put3
    rw [st _ _ _ _ (by omega)]
    exact one_setCell ((st _ _ _ _ (by omega)).trans h.b1)
  · exact one_setCell ((st _ _ _ _ (by omega)).trans ((st _ _ _ _ (by omega)).trans h.b2))

theorem below_put1 {b i : Nat} {v : Value} (h : Below w.heap.size w w') (hb : w.heap.size ≤ b) : Below w.heap.size w (w'.setCell ⟨b, i, none⟩ v) :=
  have hg := grown_set w' b i v
  ⟨hg.os.trans h.os, hg.tape.trans h.tape, hg.output.trans h.output, Nat.le_trans h.size hg.size, fun k hk => (hg.block k (Nat.lt_of_lt_of_le hk h.size) (fun e => by cases e; omega)).trans (h.block k hk)⟩

theorem below_put3 (h : Below w.heap.size w w') (hb : w.heap.size ≤ B) : Below w.heap.size w (Go.Proofs.Ytflomdnjabgnaaa.put3 w' B y0 y1 y2) := below_put1 (below_put1 (below_put1 h hb) (by omega)) (by omega)

theorem SubAt.put1 {S b : Nat} {σ : Sb} {n : Nat} {x v : Value} {t : TypeId} (h : SubAt S σ n w) (hb : w.heap[b]? = some (.cells #[x] t (0, 0))) (hne : S ≠ b) : SubAt S σ n (w.setCell ⟨b, 0, none⟩ v) := h.but hb (by simp) hne (grown_set _ _ _ _)

theorem SubAt.put3 {S : Nat} {σ : Sb} {n : Nat} (h : SubAt S σ n w) (hb : TB B x0 x1 x2 w) (hne : S ≠ B ∧ S ≠ B + 1 ∧ S ≠ B + 1 + 1) : SubAt S σ n (Go.Proofs.Ytflomdnjabgnaaa.put3 w B y0 y1 y2) := by
  have st : ∀ (w : World) (b k : Nat) (v : Value), k ≠ b → (w.setCell ⟨b, 0, none⟩ v).heap[k]? = w.heap[k]? := fun w b k v hk => Below.heap_setCell w ⟨b, 0, none⟩ v k hk
  exact ((h.put1 hb.b0 hne.1).put1 ((st _ _ _ _ (by omega)).trans hb.b1) hne.2.1).put1 ((st _ _ _ _ (by omega)).trans ((st _ _ _ _ (by omega)).trans hb.b2)) hne.2.2

theorem AtP_put1 {P : Nat → Prop} {b : Nat} {x v : Value} {t : TypeId} (hb : w.heap[b]? = some (.cells #[x] t (0, 0))) {p : Option Addr} {ts : Ts} (h : Ts.AtP P w p ts) : Ts.AtP P (w.setCell ⟨b, 0, none⟩ v) p ts :=
  have hT : Tiny b w := ⟨_, _, _, hb, by simp⟩
  AtP_g2 (.of_K (grown_set w b 0 v) : G2 b b w _) hT hT h

theorem AtP_put3 {P : Nat → Prop} (hb : TB B x0 x1 x2 w) {p : Option Addr} {ts : Ts} (h : Ts.AtP P w p ts) : Ts.AtP P (Go.Proofs.Ytflomdnjabgnaaa.put3 w B y0 y1 y2) p ts := by
  have st : ∀ (w : World) (b k : Nat) (v : Value), k ≠ b → (w.setCell ⟨b, 0, none⟩ v).heap[k]? = w.heap[k]? := fun w b k v hk => Below.heap_setCell w ⟨b, 0, none⟩ v k hk
  exact AtP_put1 ((st _ _ _ _ (by omega)).trans ((st _ _ _ _ (by omega)).trans hb.b2)) (AtP_put1 ((st _ _ _ _ (by omega)).trans hb.b1) (AtP_put1 hb.b0 h))

theorem TB.new (w : World) : TB w.heap.size (.pointer none) (.bool false) (.int .i64 0) (((w.alloc (.cells #[.pointer none] 27)).alloc (.cells #[.bool false] 4)).alloc (.cells #[.int .i64 0] 28)) := by
  have h1 := heap_alloc_new w (.cells #[.pointer none] 27)
  have h2 := heap_alloc_new (w.alloc (.cells #[.pointer none] 27)) (.cells #[.bool false] 4)
  have h3 := heap_alloc_new ((w.alloc (.cells #[.pointer none] 27)).alloc (.cells #[.bool false] 4)) (.cells #[.int .i64 0] 28)
  have st : ∀ (w : World) (o : Obj) (k : Nat), k < w.heap.size → (w.alloc o).heap[k]? = w.heap[k]? := fun w o k hk => ((Below.refl _ w).alloc (Nat.le_refl _) o).block k hk
  rw [World.size_alloc] at h2
  rw [World.size_alloc, World.size_alloc] at h3
  exact ⟨(st _ _ _ (by rw [World.size_alloc]; rw [World.size_alloc]; omega)).trans ((st _ _ _ (by rw [World.size_alloc]; omega)).trans h1), (st _ _ _ (by rw [World.size_alloc]; rw [World.size_alloc]; omega)).trans h2, h3⟩
end

/-- what Lists tells -/
def LRes (σ : Sb) (n : Nat) (w : World) (L : List (Nd × Nd)) (e : Ending) (w' : World) : Prop :=
  Below w.heap.size w w' ∧ match un 4096 n σ L with
    | .full => e = .returned (.tuple #[.pointer none, .bool false, .int .i64 31])
    | .no => e = .returned (.tuple #[.pointer none, .bool false, .int .i64 0])
    | .ok ρ c _ => ∃ S2 σp, e = .returned (.tuple #[.pointer (some ⟨S2, 0, none⟩), .bool true, .int .i64 0]) ∧ w.heap.size ≤ S2 ∧ STw σp ρ ∧ SubAt S2 σp c w' ∧ ∀ x t, σp x = some t → σ x = some t ∨ Ts.AtP (fun b => w.heap.size ≤ b) w' t.p t.kids

set_option maxRecDepth 100000 in
set_option maxHeartbeats 8000000 in
theorem Lists_any (S : Nat) (σ : Sb) (n : Nat) (w : World) (hS : SubAt S σ n w) (hn : n ≤ 900000) (pa : Option Addr) (ta : Ts) (ca : Nat) (pb : Option Addr) (tb : Ts) (cb : Nat) (hlen : ta.len = tb.len) (ha : EntOk (fun _ => True) ⟨pa, ta, ca⟩ w) (hb : EntOk (fun _ => True) ⟨pb, tb, cb⟩ w) :
    Calls Try.prog 35 #[.pointer (some ⟨S, 0, none⟩), .slice pa ta.len ca, .slice pb tb.len cb] w (LRes σ n w (pairsOf [(⟨pa, ta, ca⟩, ⟨pb, tb, cb⟩)])) := by
  have hmf : ∀ (fn : Fn) (first cap : Array Value) (w : World), (Instr.makeFunc fn first cap).run Try.prog w = .ok (.func fn first cap) w := fun _ _ _ _ => rfl
  have HLEN := Lib.hid hlen
  have HS := Lib.hid hS
  have HA := Lib.hid ha
  have HB := Lib.hid hb
  have hSl := hS.lt
  have hbl : ta.len ≤ 9223372036854775807 := Nat.le_trans ha.cap.1 ha.cap.2
  have hal : ((ta.len : Int) != (ta.len : Int)) = false := by simp
  rw [← hlen]
  clear hlen hS ha hb
  go_enter_defers Try.func35, Try.ntmps35
  go_wp2_with fail
  obtain ⟨W0, hW0⟩ : ∃ W0, W0 = ((w.alloc (.cells #[.pointer none] 27)).alloc (.cells #[.bool false] 4)).alloc (.cells #[.int .i64 0] 28) := ⟨_, rfl⟩
  have hT0 : TB w.heap.size (.pointer none) (.bool false) (.int .i64 0) W0 := by rw [hW0]; exact TB.new w
  have hB0 : Below w.heap.size w W0 := by rw [hW0]; exact (((Below.refl _ _).alloc (Nat.le_refl _) _).alloc (by simp) _).alloc (by simp; omega) _
  have hs0 : W0.heap.size = w.heap.size + 3 := by rw [hW0]; simp
  rw [← hW0]
  refine (sbclone_any S σ n W0 (HS.out.below hB0)).mono ?_
  rintro e wa ⟨rfl, hS2, hBa⟩
  obtain ⟨W1, hW1⟩ : ∃ W1, W1 = wa.alloc (.cells #[.pointer (some ⟨W0.heap.size, 0, none⟩), .int .i64 0] 97) := ⟨_, rfl⟩
  have hB1 : Below wa.heap.size wa W1 := by rw [hW1]; exact (Below.refl _ _).alloc (Nat.le_refl _) _
  have hs01 := hS2.lt
  obtain ⟨KB, hKB⟩ : ∃ KB, KB = wa.heap.size := ⟨_, rfl⟩
  obtain ⟨S2, hS2e⟩ : ∃ S2, S2 = W0.heap.size := ⟨_, rfl⟩
  have UU : Hid (UAt KB S2 σ n 0 W1) := Lib.hid (by
    rw [hKB, hS2e]
    exact ⟨by rw [hW1]; exact heap_alloc_new _ _, hS2.below hB1, by omega⟩)
  have hB01 : Below W0.heap.size W0 W1 := hBa.trans (hB1.mono hBa.size)
  have T1 := Lib.hid (hT0.of_blocks (hB01.block _ (by omega)) (hB01.block _ (by omega)) (hB01.block _ (by omega)))
  have B1 := Lib.hid (hB0.trans (hB01.mono hB0.size))
  have hK1 : w.heap.size + 3 ≤ KB ∧ w.heap.size + 3 ≤ S2 := by omega
  have Z1 := Lib.hid hW1
  have ZK := Lib.hid hKB
  have ZS := Lib.hid hS2e
  clear hW0 hT0 hB0 hs0 hBa hW1 hB1 hs01 hKB hS2e hB01 hS2
  go_upto_region 7 with fail
  rw [← ZS.out] at Z1 ⊢
  rw [← Z1.out, ← ZK.out]
  go_wp2_with fail
  refine (by have h := lists_any KB S2 σ n 0 W1 UU.out (by omega) hn pa ta ca pb tb cb HLEN.out (HA.out.imp (fun b _ hb => B1.out.block b hb) (fun _ h _ => h)) (HB.out.imp (fun b _ hb => B1.out.block b hb) (fun _ h _ => h)); rw [← HLEN.out] at h; exact h : Calls Try.prog 69 #[.pointer (some ⟨KB, 0, none⟩), .slice pa ta.len ca, .slice pb ta.len cb] W1 _).mono ?_
  intro e wb hU
  have HU := Lib.hid hU
  clear hU
  have hG := HU.out.1
  have T2 := Lib.hid (T1.out.of_blocks (hG.block _ (lt_of_block T1.out.b0) (by omega) (by omega)) (hG.block _ (lt_of_block T1.out.b1) (by omega) (by omega)) (hG.block _ (lt_of_block T1.out.b2) (by omega) (by omega)))
  have B2 := Lib.hid (hG.below B1.out B1.out.size (by omega) (by omega))
  have hU2 := HU.out.2
  rw [Nat.sub_zero] at hU2
  have g0 := cell_of_one T2.out.b0
  have g1 := cell_of_one T2.out.b1
  have g2 := cell_of_one T2.out.b2
  have k0 := free_of_one T2.out.b0
  have k1 := free_of_one T2.out.b1
  have k2 := free_of_one T2.out.b2
  have T3 := fun y0 y1 y2 => T2.out.put3 (y0 := y0) (y1 := y1) (y2 := y2)
  clear hG
  cases hE : un 4096 n σ (pairsOf [(⟨pa, ta, ca⟩, ⟨pb, tb, cb⟩)]) with
  | full =>
    rw [hE] at hU2
    subst hU2
    have LR : Hid (LRes σ n w (pairsOf [(⟨pa, ta, ca⟩, ⟨pb, tb, cb⟩)]) (.returned (.tuple #[.pointer none, .bool false, .int .i64 31])) (put3 wb w.heap.size (.pointer none) (.bool false) (.int .i64 31))) := Lib.hid ⟨below_put3 B2.out (Nat.le_refl _), by rw [hE]⟩
    have T4 := T3 (.pointer none) (.bool false) (.int .i64 31)
    have q0 := cell_of_one T4.b0
    have q1 := cell_of_one T4.b1
    have q2 := cell_of_one T4.b2
    clear hE HU T3 T4
    go_wp2_with fail
    refine leaves_cons (f := 68) (args := #[.pointer (some ⟨w.heap.size, 0, none⟩), .pointer (some ⟨w.heap.size + 1, 0, none⟩), .pointer (some ⟨w.heap.size + 1 + 1, 0, none⟩)]) (by simp) (by simp [go_sem]) ?_
    refine (caught_full w.heap.size (w.heap.size + 1) (w.heap.size + 1 + 1) _ _ _ wb g0 g1 g2 k0 k1 k2 (by omega) (by omega) (by omega)).mono ?_
    rintro e u' w'' ⟨rfl, rfl, rfl⟩
    change Leaves _ _ _ _ [] .returning (put3 wb w.heap.size (.pointer none) (.bool false) (.int .i64 31))
    refine ⟨.tuple #[.pointer none, .bool false, .int .i64 31], ?_, LR.out⟩
    simp [results, Try.results35, go_sem, q0, q1, q2]
  | no =>
    rw [hE] at hU2
    subst hU2
    have LR : Hid (LRes σ n w (pairsOf [(⟨pa, ta, ca⟩, ⟨pb, tb, cb⟩)]) (.returned (.tuple #[.pointer none, .bool false, .int .i64 0])) (put3 wb w.heap.size (.pointer none) (.bool false) (.int .i64 0))) := Lib.hid ⟨below_put3 B2.out (Nat.le_refl _), by rw [hE]⟩
    have T4 := T3 (.pointer none) (.bool false) (.int .i64 0)
    have q0 := cell_of_one T4.b0
    have q1 := cell_of_one T4.b1
    have q2 := cell_of_one T4.b2
    clear hE HU T3 T4
    go_wp2_with fail
    refine leaves_cons (f := 68) (args := #[.pointer (some ⟨w.heap.size, 0, none⟩), .pointer (some ⟨w.heap.size + 1, 0, none⟩), .pointer (some ⟨w.heap.size + 1 + 1, 0, none⟩)]) (by simp) (by simp [go_sem]) ?_
    refine (caught_idle w.heap.size (w.heap.size + 1) (w.heap.size + 1 + 1) _).mono ?_
    rintro e u' w'' ⟨rfl, rfl, rfl⟩
    change Leaves _ _ _ _ [] .returning (put3 wb w.heap.size (.pointer none) (.bool false) (.int .i64 0))
    refine ⟨.tuple #[.pointer none, .bool false, .int .i64 0], ?_, LR.out⟩
    simp [results, Try.results35, go_sem, q0, q1, q2]
  | ok ρ c r =>
    rw [hE] at hU2
    obtain ⟨rfl, σp, m2, hr2, hm2, hST, hUA, hold⟩ := hU2
    have z0 := hUA.c0
    have hKw := hUA.lt
    have hSS := hUA.sub.put3 T2.out (y0 := .pointer (some ⟨S2, 0, none⟩)) (y1 := .bool true) (y2 := .int .i64 0) ⟨by omega, by omega, by omega⟩
    have LR : Hid (LRes σ n w (pairsOf [(⟨pa, ta, ca⟩, ⟨pb, tb, cb⟩)]) (.returned (.tuple #[.pointer (some ⟨S2, 0, none⟩), .bool true, .int .i64 0])) (put3 wb w.heap.size (.pointer (some ⟨S2, 0, none⟩)) (.bool true) (.int .i64 0))) := Lib.hid ⟨below_put3 B2.out (Nat.le_refl _), by
      rw [hE]
      refine ⟨S2, σp, rfl, by omega, hST, hSS, fun x t hx => ?_⟩
      rcases hold x t hx with h | h
      · exact .inl h
      · exact .inr (AtP_put3 T2.out (AtP_imp (fun b _ hb => Nat.le_trans B1.out.size hb) h))⟩
    have T4 := T3 (.pointer (some ⟨S2, 0, none⟩)) (.bool true) (.int .i64 0)
    have q0 := cell_of_one T4.b0
    have q1 := cell_of_one T4.b1
    have q2 := cell_of_one T4.b2
    clear hE HU T3 T4 hST hUA hold hSS hr2
    go_wp2_with fail
    refine leaves_cons (f := 68) (args := #[.pointer (some ⟨w.heap.size, 0, none⟩), .pointer (some ⟨w.heap.size + 1, 0, none⟩), .pointer (some ⟨w.heap.size + 1 + 1, 0, none⟩)]) (by simp) (by simp [go_sem]) ?_
    refine (caught_idle w.heap.size (w.heap.size + 1) (w.heap.size + 1 + 1) _).mono ?_
    rintro e u' w'' ⟨rfl, rfl, rfl⟩
    change Leaves _ _ _ _ [] .returning (put3 wb w.heap.size (.pointer (some ⟨S2, 0, none⟩)) (.bool true) (.int .i64 0))
    refine ⟨.tuple #[.pointer (some ⟨S2, 0, none⟩), .bool true, .int .i64 0], ?_, LR.out⟩
    simp [results, Try.results35, go_sem, q0, q1, q2]

end Go.Proofs.Ytflomdnjabgnaaa
