import Derived.Test.YtnmhnaanpjlniaaGreatTm
import Derived.Maps.OwnIn
import Derived.Maps.AppendAt
import Derived.RangeFuncBox
/-
  The nodes of terms, one by one: the iterator.
-/
namespace Go.Proofs.YtnmhnaanpjlniaaGreat
open Go.RowKit
attribute [local go_sem] Oper.semAt_some

structure Nd where
  k : Int
  s : ByteArray
  n : Int
  p : Option Addr
  c : Nat
  kids : Ts

def Nd.val (x : Nd) : Value := .agg #[.int .u8 x.k, .string x.s, .int .i64 x.n, .slice x.p x.kids.len x.c]

def nodesOf : Ts → List Nd
  | .nil => []
  | .cons k s n p c kids rest => ⟨k, s, n, p, c, kids⟩ :: (nodesOf kids ++ nodesOf rest)

theorem nodesOf_length : ∀ ts : Ts, (nodesOf ts).length = ts.size
  | .nil => rfl
  | .cons _ _ _ _ _ kids rest => by simp only [nodesOf, List.length_cons, List.length_append, Ts.size]; rw [nodesOf_length kids, nodesOf_length rest]

namespace Ts
/-- like lies, in blocks that P tells -/
def liesP (P : Nat → Prop) (w : World) : Nat → Nat → Ts → Prop
  | _, _, .nil => True
  | b, o, .cons k s n p cap kids rest =>
    P b ∧ w.cell? ⟨b, o, none⟩ = some (.int .u8 k) ∧ w.cell? ⟨b, o + 1, none⟩ = some (.string s) ∧ w.cell? ⟨b, o + 2, none⟩ = some (.int .i64 n) ∧ w.cell? ⟨b, o + 3, none⟩ = some (.slice p kids.len cap) ∧
    (∃ b' o', (kids = .nil ∨ p = some ⟨b', o', none⟩) ∧ liesP P w b' o' kids) ∧ liesP P w b (o + 4) rest

def AtP (P : Nat → Prop) (w : World) (p : Option Addr) (ts : Ts) : Prop := ∃ b o, (ts = .nil ∨ p = some ⟨b, o, none⟩) ∧ ts.liesP P w b o

theorem liesP_stay {P : Nat → Prop} {w w' : World} (hc : ∀ b, P b → b < w.heap.size → w'.heap[b]? = w.heap[b]?) : ∀ (ts : Ts) {b o : Nat}, ts.liesP P w b o → ts.liesP P w' b o
  | .nil, _, _, _ => trivial
  | .cons k s n p cap kids rest, b, o, ⟨hb, h0, h1, h2, h3, ⟨b', o', h4, h5⟩, h6⟩ => by
    have hlt : b < w.heap.size := World.block_lt_of_cell? _ _ h0
    have e := fun x => World.cell?_of_block (a := ⟨b, x, none⟩) (hc b hb hlt)
    exact ⟨hb, (e _).trans h0, (e _).trans h1, (e _).trans h2, (e _).trans h3, ⟨b', o', h4, liesP_stay hc kids h5⟩, liesP_stay hc rest h6⟩

theorem AtP.stay {P : Nat → Prop} {w w' : World} {p : Option Addr} {ts : Ts} (h : AtP P w p ts) (hc : ∀ b, P b → b < w.heap.size → w'.heap[b]? = w.heap[b]?) : AtP P w' p ts := by
  obtain ⟨b, o, h1, h2⟩ := h
  exact ⟨b, o, h1, liesP_stay hc ts h2⟩

theorem lies_liesP {w : World} : ∀ (ts : Ts) {b o : Nat}, ts.lies w b o → ts.liesP (· < w.heap.size) w b o
  | .nil, _, _, _ => trivial
  | .cons _ _ _ _ _ kids rest, _, _, ⟨h0, h1, h2, h3, ⟨b', o', h4, h5⟩, h6⟩ => ⟨World.block_lt_of_cell? _ _ h0, h0, h1, h2, h3, ⟨b', o', h4, lies_liesP kids h5⟩, lies_liesP rest h6⟩

theorem At.atP {w : World} {p : Option Addr} {ts : Ts} (h : At w p ts) : AtP (· < w.heap.size) w p ts := by
  obtain ⟨b, o, h1, h2⟩ := h
  exact ⟨b, o, h1, lies_liesP ts h2⟩
end Ts

/-- what waits: a rest of a list -/
structure Ent where
  p : Option Addr
  ts : Ts
  c : Nat
def Ent.val (e : Ent) : Value := .slice e.p e.ts.len e.c
def rem : List Ent → List Nd
  | [] => []
  | e :: st => nodesOf e.ts ++ rem st

/-- the iterator between two rounds -/
def Waits (all : List Nd) (B : Nat) (Tin : Nat → Prop) (mine : World → Nat → Prop) (J : List Nd → World → Prop) (k : Nat) (v : Value) (wr : World) : Prop :=
  ∃ (pre : List Nd) (st : List Ent), wr.ownsRow B 23 1 v st.length (st.reverse.map Ent.val) ∧ B ≤ wr.heap.size ∧ (∀ e ∈ st, (e.ts.len ≤ e.c ∧ e.c ≤ 9223372036854775807) ∧ e.ts.ok ∧ Ts.AtP Tin wr e.p e.ts) ∧ pre ++ rem st = all ∧ J pre wr ∧
    (∀ g, v.ownBlock = some g → ¬ mine wr g) ∧ (∀ g, wr.heap.size ≤ g → ¬ mine wr g) ∧ k = 2 * (rem st).length + st.length ∧ st.length ≤ pre.length + 1

theorem least {q : Nat → Prop} : ∀ k, q k → ∃ m, q m ∧ ∀ j, q j → m ≤ j := by
  intro k
  induction k using Nat.strongRecOn with
  | ind k ih =>
    intro hk
    by_cases h : ∃ j, j < k ∧ q j
    · obtain ⟨j, hj, hq⟩ := h
      exact ih j hj hq
    · exact ⟨k, hk, fun j hq => Nat.le_of_not_lt fun hl => h ⟨j, hl, hq⟩⟩

open Classical in
/-- how much is to be done, as the world tells -/
noncomputable def waitsFor (all : List Nd) (B : Nat) (Tin : Nat → Prop) (mine : World → Nat → Prop) (J : List Nd → World → Prop) (v : Value) (wr : World) : Nat :=
  if h : ∃ m, Waits all B Tin mine J m v wr ∧ ∀ j, Waits all B Tin mine J j v wr → m ≤ j then Classical.choose h else 0

theorem waitsFor_least {all : List Nd} {B : Nat} {Tin : Nat → Prop} {mine : World → Nat → Prop} {J : List Nd → World → Prop} {v : Value} {wr : World} (h : ∃ k, Waits all B Tin mine J k v wr) :
    Waits all B Tin mine J (waitsFor all B Tin mine J v wr) v wr := by
  obtain ⟨k, hk⟩ := h
  have h2 : ∃ m, Waits all B Tin mine J m v wr ∧ ∀ j, Waits all B Tin mine J j v wr → m ≤ j := least k hk
  unfold waitsFor
  rw [dif_pos h2]
  exact (Classical.choose_spec h2).1

theorem waitsFor_le {all : List Nd} {B : Nat} {Tin : Nat → Prop} {mine : World → Nat → Prop} {J : List Nd → World → Prop} {v : Value} {wr : World} {k : Nat} (hk : Waits all B Tin mine J k v wr) :
    waitsFor all B Tin mine J v wr ≤ k := by
  have h2 : ∃ m, Waits all B Tin mine J m v wr ∧ ∀ j, Waits all B Tin mine J j v wr → m ≤ j := least k hk
  unfold waitsFor
  rw [dif_pos h2]
  exact (Classical.choose_spec h2).2 k hk

theorem infoTerms : (Tryz.prog.info? 23).map (fun i => (i.zero, i.size, i.bytes)) = some (some (.slice none 0 0), 1, 24) := by kernel_rfl

theorem ownsRow_block {w w' : World} {base : Nat} {e : TypeId} {g n cap : Nat} {xs : List Value} (h : w.ownsRow base e 1 (.slice (some ⟨g, 0, none⟩) n cap) n xs) (he : w'.heap[g]? = w.heap[g]?) : w'.ownsRow base e 1 (.slice (some ⟨g, 0, none⟩) n cap) n xs := by
  obtain ⟨h1, h2⟩ := h
  refine ⟨h1, ?_⟩
  rcases h2 with ⟨hv, _⟩ | ⟨g', cap', cur, hv, hb, hh, hr⟩
  · cases hv
  · cases hv
    exact .inr ⟨g, cap, cur, rfl, hb, he.trans hh, hr⟩

theorem set_last (A : List Value) (u v : Value) (n : Nat) (h : n = A.length) : (A ++ [u]).set n v = A ++ [v] := by
  subst h
  simp

set_option maxRecDepth 100000 in
set_option maxHeartbeats 2000000 in
theorem nodes_seq (F : Fence) (n : Nat) (hF : F.fn 92) (hro : F.round = none) (hn : 1 ≤ n) (Bn : Nat) (p : Option Addr) (cap : Nat) (ts : Ts) (hok : ts.ok) (hcap : ts.len ≤ cap ∧ cap ≤ 9223372036854775807) (hbig : ts.size ≤ 1000000)
    (Tin : Nat → Prop) (mine : World → Nat → Prop) (w : World) (hT : ∀ b, Tin b → b < w.heap.size ∧ ∀ W, ¬ mine W b) (hbox : w.cell? ⟨Bn, 0, none⟩ = some (.slice p ts.len cap)) (hat : Ts.AtP Tin w p ts) :
    Seq F n Tryz.prog 92 #[.pointer (some ⟨Bn, 0, none⟩)] (fun x : Nd => #[x.val]) mine (fun ys => ys = nodesOf ts) (fun pre => pre <+: nodesOf ts) w := by
  intro l J Jx W hBW hnew hmineI hJ hJx hY h0
  have hbox' : W.cell? ⟨Bn, 0, none⟩ = some (.slice p ts.len cap) := (hBW.cell (p := ⟨Bn, 0, none⟩) (World.block_lt_of_cell? _ _ hbox)).trans hbox
  have H1 := Lib.hid hnew
  have H2 := Lib.hid hmineI
  have H3 := Lib.hid hJ
  have H4 := Lib.hid hJx
  have H5 := Lib.hid hY
  have H6 := Lib.hid h0
  clear hnew hmineI hJ hJx hY h0
  refine callsIn_of_wp Tryz.func92 rfl hF ?_ hro
  simp only [Tryz.ntmps92, List.size_toArray, List.length_cons, List.length_nil, Nat.reduceAdd, Nat.reduceSub, Array.replicate_succ, Array.replicate_zero, List.push_toArray, List.append_toArray, List.nil_append, List.cons_append]
  gi_wp2
  gi_loopw [3] (fun v wr => ∃ k, Waits (nodesOf ts) W.heap.size Tin mine J k v wr) (fun v wr => waitsFor (nodesOf ts) W.heap.size Tin mine J v wr)
  case atStart =>
    have hgr : W.grownBy (W.alloc (.cells #[.slice p ts.len cap] 23)) none := World.grownBy_alloc _ _ none
    have hm : ∀ k, ¬ mine W k → ¬ mine (W.alloc (.cells #[.slice p ts.len cap] 23)) k := fun k => H2.out _ _ none k hgr (fun r e => by cases e)
    refine ⟨_, [], [⟨p, ts, cap⟩], World.ownsRow_lit W #[.slice p ts.len cap] 1 (Nat.le_refl _) (by unfold maxLen; omega) rfl, by simp, fun e he => ?_, by simp [rem], H3.out _ _ _ none H6.out hgr (fun r e => by cases e), fun g hg => ?_, fun k hk => hm k (H1.out k (by simp at hk; omega)), rfl, by simp⟩
    · obtain rfl : e = ⟨p, ts, cap⟩ := by simpa using he
      refine ⟨hcap, hok, (hat.stay (w' := W) fun b hb hlt => hBW.block b hlt).stay fun b hb hlt => Below.heap_alloc _ _ _ hlt⟩
    · have : W.heap.size = g := by simpa [Value.ownBlock] using hg
      rw [← this]
      exact hm _ (H1.out _ (Nat.le_refl _))
  case round =>
    have hw := waitsFor_least hrel
    obtain ⟨mu, hmu⟩ : ∃ mu, mu = waitsFor (nodesOf ts) W.heap.size Tin mine J u3 wr := ⟨_, rfl⟩
    rw [← hmu] at hw
    have MU := Lib.hid hmu
    clear hmu hrel
    obtain ⟨pre, st, hrow, hBs, hst, hall, hJp, hnm, hnw, hk, hlen⟩ := hw
    have hpl : pre.length + (rem st).length ≤ 1000000 := by
      have := congrArg List.length hall
      rw [List.length_append, nodesOf_length] at this
      omega
    have ST := Lib.hid hst
    have ALL := Lib.hid hall
    have JP := Lib.hid hJp
    have NM := Lib.hid hnm
    have NW := Lib.hid hnw
    clear hst hall hJp hnm hnw
    cases st with
    | nil =>
      change wr.ownsRow _ _ 1 _ 0 [] at hrow
      have JE : Hid (J (nodesOf ts) wr) := Lib.hid (by have h := ALL.out; simp only [rem, List.append_nil] at h; rw [← h]; exact JP.out)
      rcases _root_.Go.Joins.ownsRow_forms hrow with ⟨rfl, _⟩ | ⟨g, cg, rfl⟩
      · gi_wp2
        go_end0
        first | exact ⟨⟨_, rfl⟩, .inl JE.out⟩ | exact ⟨⟨_, rfl⟩, .inl ⟨_, rfl, JE.out⟩⟩
      · gi_wp2
        go_end0
        first | exact ⟨⟨_, rfl⟩, .inl JE.out⟩ | exact ⟨⟨_, rfl⟩, .inl ⟨_, rfl, JE.out⟩⟩
    | cons e st =>
      obtain ⟨g, cg, rfl⟩ := _root_.Go.Joins.ownsRow_form hrow (Nat.succ_pos _)
      have hce := hrow.cellAt st.length (by simp)
      have hcell : wr.cell? ⟨g, st.length, none⟩ = some e.val := by rw [hce]; simp
      have hfr := hrow.frozenAt st.length
      have hcgl : st.length + 1 ≤ cg := by
        rcases hrow.2 with ⟨h, _⟩ | ⟨g', c', cur, h, _, _, h2, _⟩
        · cases h
        · cases h; exact h2
      have ROW := Lib.hid hrow
      clear hce hrow
      obtain ⟨ep, ets, ec⟩ := e
      simp only [Ent.val, List.length_cons] at hcell hlen hpl
      simp only [List.length_cons]
      cases ets with
      | nil =>
        have hz : Ts.nil.len = 0 := rfl
        rw [hz] at hcell
        gi_wp2
        have NX : Waits (nodesOf ts) W.heap.size Tin mine J (2 * (rem st).length + st.length) (.slice (some ⟨g, 0, none⟩) st.length cg) wr :=
          ⟨pre, st, ownsRow_pop (by simp) (by have h := ROW.out; simp only [List.reverse_cons, List.map_append] at h; exact h), hBs, fun e he => ST.out e (List.mem_cons_of_mem _ he), by have h := ALL.out; simpa [rem, nodesOf] using h, JP.out, NM.out, NW.out, rfl, by omega⟩
        go_roundw
        case rel => exact ⟨_, NX⟩
        case measure =>
          have h3 : mu = waitsFor (nodesOf ts) W.heap.size Tin mine J (.slice (some ⟨g, 0, none⟩) (st.length + 1) cg) wr := MU.out
          rw [← h3]
          have h1 := waitsFor_le NX
          have h2 := hk
          simp only [rem, nodesOf, List.nil_append, List.length_cons] at h2
          omega
      | cons kk s1 nn pp cc kids rest =>
        have hz : (Ts.cons kk s1 nn pp cc kids rest).len = rest.len + 1 := rfl
        rw [hz] at hcell
        obtain ⟨⟨hec, hec2⟩, hok1, b, o, hpo, hb, l0, l1, l2, l3, ⟨b', o', hpp, hlk⟩, hlr⟩ := ST.out ⟨ep, .cons kk s1 nn pp cc kids rest, ec⟩ (List.mem_cons_self ..)
        simp only [Ts.len] at hec
        change ec ≤ 9223372036854775807 at hec2
        obtain rfl : ep = some ⟨b, o, none⟩ := by
          rcases hpo with h | h
          · cases h
          · exact h
        have hglt : g < wr.heap.size := by have := World.block_lt_of_cell? _ _ hcell; exact this
        have hgW : W.heap.size ≤ g := (ROW.out.lt g rfl).1
        have hgb : ¬ g = b := by have := (hT b hb).1; have := hBW.size; omega
        have hbg : ¬ b = g := fun e => hgb e.symm
        have hbw : b < wr.heap.size := World.block_lt_of_cell? _ _ l0
        have hec0 : 0 < ec := by omega
        have hgn : ¬ wr.heap.size = g := by omega
        obtain ⟨q, c', hq1, hq2⟩ : ∃ (q : Option Addr) (c' : Nat), (ec = 1 → q = some ⟨b, o, none⟩ ∧ c' = 0) ∧ (¬ ec = 1 → q = some ⟨b, o + 4, none⟩ ∧ c' = ec - 1) := by
          by_cases h : ec = 1
          · exact ⟨_, _, fun _ => ⟨rfl, rfl⟩, fun h' => absurd h h'⟩
          · exact ⟨_, _, fun h' => absurd h' h, fun _ => ⟨rfl, rfl⟩⟩
        have hrest : (rest.len ≤ c' ∧ c' ≤ 9223372036854775807) ∧ rest.ok ∧ Ts.AtP Tin wr q rest := by
          refine ⟨?_, hok1.2.2.2.2.2.2, ?_⟩
          · by_cases h : ec = 1
            · obtain ⟨_, rfl⟩ := hq1 h; omega
            · obtain ⟨_, rfl⟩ := hq2 h; omega
          · by_cases h : ec = 1
            · obtain ⟨rfl, rfl⟩ := hq1 h
              obtain rfl : rest = .nil := Ts.len_zero (by omega)
              exact ⟨0, 0, .inl rfl, trivial⟩
            · obtain ⟨rfl, rfl⟩ := hq2 h
              exact ⟨b, o + 4, .inr rfl, hlr⟩
        have hkids : (kids.len ≤ cc ∧ cc ≤ 9223372036854775807) ∧ kids.ok ∧ Ts.AtP Tin wr pp kids := ⟨hok1.2.2.2.1, hok1.2.2.2.2.2.1, b', o', hpp, hlk⟩
        obtain ⟨x, hx⟩ : ∃ x : Nd, x = ⟨kk, s1, nn, pp, cc, kids⟩ := ⟨_, rfl⟩
        have hxv : x.val = .agg #[.int .u8 kk, .string s1, .int .i64 nn, .slice pp kids.len cc] := by rw [hx]; rfl
        have hallx : (pre ++ [x]) ++ (nodesOf kids ++ (nodesOf rest ++ rem st)) = nodesOf ts := by
          rw [← ALL.out, hx]; simp [rem, nodesOf]
        have hprel : pre ++ [x] <+: nodesOf ts := ⟨_, hallx⟩
        -- the world in which yield is called
        have hrow0 := ROW.out
        simp only [List.reverse_cons, List.map_append, List.map_cons, List.map_nil, List.length_cons] at hrow0
        obtain ⟨hrowS, hgrS⟩ := hrow0.stored st.length (.slice q rest.len c')
        rw [set_last _ _ _ _ (by simp)] at hrowS
        obtain ⟨Wy, hWy⟩ : ∃ Wy, Wy = (wr.setCell ⟨g, st.length, none⟩ (.slice q rest.len c')).alloc (.cells #[.int .u8 kk, .string s1, .int .i64 nn, .slice pp kids.len cc] 25) := ⟨_, rfl⟩
        have hgng : ¬ mine wr g := NM.out g rfl
        have hgS : ∀ r, some g = some r → W.heap.size ≤ r ∧ ¬ mine wr r := fun r e => by cases e; exact ⟨hgW, hgng⟩
        have hJ1 := H3.out _ _ _ (some g) JP.out hgrS hgS
        have hmS : ∀ k, ¬ mine wr k → ¬ mine (wr.setCell ⟨g, st.length, none⟩ (.slice q rest.len c')) k := fun k => H2.out _ _ (some g) k hgrS hgS
        have hgrA : (wr.setCell ⟨g, st.length, none⟩ (.slice q rest.len c')).grownBy Wy none := by rw [hWy]; exact World.grownBy_alloc _ _ none
        have hJ2 := H3.out _ _ _ none hJ1 hgrA (fun r e => by cases e)
        have hmA : ∀ k, ¬ mine wr k → ¬ mine Wy k := fun k hk => H2.out _ _ none k hgrA (fun r e => by cases e) (hmS k hk)
        have hsy : Wy.heap.size = wr.heap.size + 1 := by rw [hWy]; simp
        have hrowY : Wy.ownsRow W.heap.size 23 1 (.slice (some ⟨g, 0, none⟩) (st.length + 1) cg) (st.length + 1) (st.reverse.map Ent.val ++ [.slice q rest.len c']) := by rw [hWy]; exact hrowS.alloc _
        have htb : ∀ (i : Nat) (v : Value), (#[Value.int .u8 kk, .string s1, .int .i64 nn, .slice pp kids.len cc] : Array Value)[i]? = some v → Wy.cell? ⟨wr.heap.size, i, none⟩ = some v := fun i v h => by
          rw [hWy, _root_.Go.Joins.cell_alloc_mark_at _ _ _ _ _ i (by simp)]; exact h
        have hlow : ∀ b, Tin b → b < wr.heap.size → Wy.heap[b]? = wr.heap[b]? := fun b hb hlt => by
          rw [hgrA.block b (by simpa using hlt) (by simp), hgrS.block b hlt (by have := (hT b hb).1; have := hBW.size; simp; omega)]
        obtain ⟨fn, tmps, assign, body, hy, hR⟩ := H5.out pre x Wy hJ2 hprel
        rw [hxv] at hy
        rw [hWy] at hy
        have SV := Lib.hid (And.intro hrest (And.intro hkids (And.intro hallx (And.intro hmA (And.intro hsy (And.intro hrowY (And.intro htb hlow)))))))
        have WY := Lib.hid hWy
        clear hrest hkids hallx hmA hsy hrowY htb hlow hrow0 hrowS hgrS hJ1 hmS hgrA hJ2 hWy hxv hprel
        by_cases hec1 : ec = 1
        · obtain ⟨rfl, rfl⟩ := hq1 hec1
          clear hq1 hq2
          gi_wp2
          rw [← WY.out]
          refine hR.mono ?_
          rintro e W3 (⟨rfl, hJ3, hk3⟩ | ⟨rfl, hJx3⟩)
          · obtain ⟨hrest, hkids, hallx, hmA, hsy, hrowY, htb, hlow⟩ := SV.out
            have hmT : ¬ mine Wy wr.heap.size := hmA _ (NW.out _ (Nat.le_refl _))
            have hT3 := hk3.2.1 wr.heap.size (.inr hBs) (by rw [hsy]; omega) hmT
            have t3 : W3.cell? ⟨wr.heap.size, 3, none⟩ = some (.slice pp kids.len cc) := (World.cell?_of_block (a := ⟨wr.heap.size, 3, none⟩) hT3.1).trans (htb 3 _ rfl)
            have hg3 := hk3.2.1 g (.inr hgW) (by rw [hsy]; omega) (hmA _ (NM.out g rfl))
            have hrow3 := ownsRow_block hrowY hg3.1
            have hs3 : wr.heap.size + 1 ≤ W3.heap.size := by have := hk3.1; rw [hsy] at this; exact this
            have S3 := Lib.hid (And.intro hJ3 (And.intro hk3 hg3))
            have R3 := Lib.hid hrow3
            clear hJ3 hk3 hT3 hg3 hrest hkids hallx hmA hsy hrowY htb hlow hrow3
            obtain ⟨i0, hi, hz0, hz1, hz2⟩ := info_parts infoTerms
            have hb1 : st.length + 1 + 1 ≤ maxLen := by unfold maxLen; omega
            have hb2 : (st.length + 1 + 1) * 24 ≤ 140737488355328 := by omega
            have hb3 : W.heap.size ≤ (W3.alloc (.cells #[.slice pp kids.len cc] 23)).heap.size := by simp; omega
            gi_wp2_with (gi_at_builtin; refine wpListIn_append_own_at _ rfl _ _ 118 rfl W.heap.size 23 i0 (.slice none 0 0) 1 24 Tryz.underlying118 hi hz0 hz1 hz2 rfl (by decide) _ _ _ rfl (R3.out.alloc _) ⟨W3.heap.size, 0, none⟩ 1 1 [.slice pp kids.len cc] rfl rfl (cell_one_new _ _ _) (by simp [Value.oneCell']) hb1 hb2 hb3 ?_; intro v' w1 hown' hgrow hnil hob; obtain ⟨g', cap', rfl⟩ := ownsRow_succ hown')
            have hgrow : (W3.alloc (.cells #[.slice pp kids.len cc] 23)).grownBy w1 (some g) := hgrow
            have hob : (some g' : Option Nat) = some g ∨ (some g' : Option Nat) = some (W3.alloc (.cells #[.slice pp kids.len cc] 23)).heap.size := hob
            obtain ⟨hrest, hkids, hallx, hmA, hsy, hrowY, htb, hlow⟩ := SV.out
            obtain ⟨hJ3, hk3, hg3⟩ := S3.out
            have hgrB : W3.grownBy (W3.alloc (.cells #[.slice pp kids.len cc] 23)) none := World.grownBy_alloc _ _ none
            have hmB : ∀ k, ¬ mine W3 k → ¬ mine (W3.alloc (.cells #[.slice pp kids.len cc] 23)) k := fun k => H2.out _ _ none k hgrB (fun r e => by cases e)
            have hgB : ∀ r, some g = some r → W.heap.size ≤ r ∧ ¬ mine (W3.alloc (.cells #[.slice pp kids.len cc] 23)) r := fun r e => by cases e; exact ⟨hgW, hmB g hg3.2⟩
            have hmC : ∀ k, ¬ mine W3 k → ¬ mine w1 k := fun k hk => H2.out _ _ (some g) k hgrow hgB (hmB k hk)
            have hnew3 : ∀ k, W3.heap.size ≤ k → ¬ mine W3 k := hk3.2.2 fun k hk => hmA k (NW.out k (by omega))
            have hfar : ∀ b, Tin b → b < wr.heap.size → w1.heap[b]? = wr.heap[b]? := fun b hb hlt => by
              have hbg' : b ≠ g := by have := (hT b hb).1; have := hBW.size; omega
              rw [hgrow.block b (by simp; omega) (by simpa using hbg'), Below.heap_alloc _ _ _ (by omega), (hk3.2.1 b (.inl (hT b hb).1) (by omega) ((hT b hb).2 Wy)).1, hlow b hb hlt]
            have hsz1 : (W3.alloc (.cells #[.slice pp kids.len cc] 23)).heap.size ≤ w1.heap.size := hgrow.size
            have NX : Waits (nodesOf ts) W.heap.size Tin mine J (2 * (rem (⟨pp, kids, cc⟩ :: ⟨_, rest, _⟩ :: st)).length + (st.length + 1 + 1)) (.slice (some ⟨g', 0, none⟩) (st.length + 1 + 1) cap') w1 :=
              ⟨pre ++ [x], ⟨pp, kids, cc⟩ :: ⟨_, rest, _⟩ :: st, by simpa [Ent.val] using hown', by omega,
                fun e he => by
                  rcases List.mem_cons.1 he with rfl | he
                  · exact ⟨hkids.1, hkids.2.1, hkids.2.2.stay hfar⟩
                  · rcases List.mem_cons.1 he with rfl | he
                    · exact ⟨hrest.1, hrest.2.1, hrest.2.2.stay hfar⟩
                    · have := ST.out e (List.mem_cons_of_mem _ he)
                      exact ⟨this.1, this.2.1, this.2.2.stay hfar⟩,
                by simpa [rem] using hallx, H3.out _ _ _ (some g) (H3.out _ _ _ none hJ3 hgrB (fun r e => by cases e)) hgrow hgB,
                fun g2 hg2 => by
                  have hg2 : (some g' : Option Nat) = some g2 := hg2
                  rcases hob with h | h
                  · rw [h] at hg2
                    have : g2 = g := by simpa using hg2.symm
                    rw [this]; exact hmC g hg3.2
                  · rw [h] at hg2
                    have : g2 = W3.heap.size + 1 := by simpa using hg2.symm
                    rw [this]; exact hmC _ (hnew3 _ (Nat.le_succ _)),
                fun k hk => hmC k (hnew3 k (by simp at hsz1; omega)), rfl, by simp; omega⟩
            have hk' : mu = 2 * (rem (⟨some ⟨b, o, none⟩, .cons kk s1 nn pp cc kids rest, ec⟩ :: st)).length + (st.length + 1) := hk
            go_roundw
            case rel => exact ⟨_, NX⟩
            case measure =>
              have h3 : mu = waitsFor (nodesOf ts) W.heap.size Tin mine J (.slice (some ⟨g, 0, none⟩) (st.length + 1) cg) wr := MU.out
              rw [← h3]
              have h1 := waitsFor_le NX
              simp only [rem, nodesOf, List.length_append, List.length_cons] at h1 hk'
              omega
          · have JX : Hid (∃ pre, pre <+: nodesOf ts ∧ Jx pre W3) := Lib.hid ⟨pre ++ [x], ⟨_, SV.out.2.2.1⟩, hJx3⟩
            clear hJx3
            gi_wp2
            refine bodyPost_ret (results_none rfl _ _ _) rfl ?_
            exact ⟨⟨_, rfl⟩, .inr JX.out⟩
        · obtain ⟨rfl, rfl⟩ := hq2 hec1
          clear hq1 hq2
          gi_wp2
          rw [← WY.out]
          refine hR.mono ?_
          rintro e W3 (⟨rfl, hJ3, hk3⟩ | ⟨rfl, hJx3⟩)
          · obtain ⟨hrest, hkids, hallx, hmA, hsy, hrowY, htb, hlow⟩ := SV.out
            have hmT : ¬ mine Wy wr.heap.size := hmA _ (NW.out _ (Nat.le_refl _))
            have hT3 := hk3.2.1 wr.heap.size (.inr hBs) (by rw [hsy]; omega) hmT
            have t3 : W3.cell? ⟨wr.heap.size, 3, none⟩ = some (.slice pp kids.len cc) := (World.cell?_of_block (a := ⟨wr.heap.size, 3, none⟩) hT3.1).trans (htb 3 _ rfl)
            have hg3 := hk3.2.1 g (.inr hgW) (by rw [hsy]; omega) (hmA _ (NM.out g rfl))
            have hrow3 := ownsRow_block hrowY hg3.1
            have hs3 : wr.heap.size + 1 ≤ W3.heap.size := by have := hk3.1; rw [hsy] at this; exact this
            have S3 := Lib.hid (And.intro hJ3 (And.intro hk3 hg3))
            have R3 := Lib.hid hrow3
            clear hJ3 hk3 hT3 hg3 hrest hkids hallx hmA hsy hrowY htb hlow hrow3
            obtain ⟨i0, hi, hz0, hz1, hz2⟩ := info_parts infoTerms
            have hb1 : st.length + 1 + 1 ≤ maxLen := by unfold maxLen; omega
            have hb2 : (st.length + 1 + 1) * 24 ≤ 140737488355328 := by omega
            have hb3 : W.heap.size ≤ (W3.alloc (.cells #[.slice pp kids.len cc] 23)).heap.size := by simp; omega
            gi_wp2_with (gi_at_builtin; refine wpListIn_append_own_at _ rfl _ _ 118 rfl W.heap.size 23 i0 (.slice none 0 0) 1 24 Tryz.underlying118 hi hz0 hz1 hz2 rfl (by decide) _ _ _ rfl (R3.out.alloc _) ⟨W3.heap.size, 0, none⟩ 1 1 [.slice pp kids.len cc] rfl rfl (cell_one_new _ _ _) (by simp [Value.oneCell']) hb1 hb2 hb3 ?_; intro v' w1 hown' hgrow hnil hob; obtain ⟨g', cap', rfl⟩ := ownsRow_succ hown')
            have hgrow : (W3.alloc (.cells #[.slice pp kids.len cc] 23)).grownBy w1 (some g) := hgrow
            have hob : (some g' : Option Nat) = some g ∨ (some g' : Option Nat) = some (W3.alloc (.cells #[.slice pp kids.len cc] 23)).heap.size := hob
            obtain ⟨hrest, hkids, hallx, hmA, hsy, hrowY, htb, hlow⟩ := SV.out
            obtain ⟨hJ3, hk3, hg3⟩ := S3.out
            have hgrB : W3.grownBy (W3.alloc (.cells #[.slice pp kids.len cc] 23)) none := World.grownBy_alloc _ _ none
            have hmB : ∀ k, ¬ mine W3 k → ¬ mine (W3.alloc (.cells #[.slice pp kids.len cc] 23)) k := fun k => H2.out _ _ none k hgrB (fun r e => by cases e)
            have hgB : ∀ r, some g = some r → W.heap.size ≤ r ∧ ¬ mine (W3.alloc (.cells #[.slice pp kids.len cc] 23)) r := fun r e => by cases e; exact ⟨hgW, hmB g hg3.2⟩
            have hmC : ∀ k, ¬ mine W3 k → ¬ mine w1 k := fun k hk => H2.out _ _ (some g) k hgrow hgB (hmB k hk)
            have hnew3 : ∀ k, W3.heap.size ≤ k → ¬ mine W3 k := hk3.2.2 fun k hk => hmA k (NW.out k (by omega))
            have hfar : ∀ b, Tin b → b < wr.heap.size → w1.heap[b]? = wr.heap[b]? := fun b hb hlt => by
              have hbg' : b ≠ g := by have := (hT b hb).1; have := hBW.size; omega
              rw [hgrow.block b (by simp; omega) (by simpa using hbg'), Below.heap_alloc _ _ _ (by omega), (hk3.2.1 b (.inl (hT b hb).1) (by omega) ((hT b hb).2 Wy)).1, hlow b hb hlt]
            have hsz1 : (W3.alloc (.cells #[.slice pp kids.len cc] 23)).heap.size ≤ w1.heap.size := hgrow.size
            have NX : Waits (nodesOf ts) W.heap.size Tin mine J (2 * (rem (⟨pp, kids, cc⟩ :: ⟨_, rest, _⟩ :: st)).length + (st.length + 1 + 1)) (.slice (some ⟨g', 0, none⟩) (st.length + 1 + 1) cap') w1 :=
              ⟨pre ++ [x], ⟨pp, kids, cc⟩ :: ⟨_, rest, _⟩ :: st, by simpa [Ent.val] using hown', by omega,
                fun e he => by
                  rcases List.mem_cons.1 he with rfl | he
                  · exact ⟨hkids.1, hkids.2.1, hkids.2.2.stay hfar⟩
                  · rcases List.mem_cons.1 he with rfl | he
                    · exact ⟨hrest.1, hrest.2.1, hrest.2.2.stay hfar⟩
                    · have := ST.out e (List.mem_cons_of_mem _ he)
                      exact ⟨this.1, this.2.1, this.2.2.stay hfar⟩,
                by simpa [rem] using hallx, H3.out _ _ _ (some g) (H3.out _ _ _ none hJ3 hgrB (fun r e => by cases e)) hgrow hgB,
                fun g2 hg2 => by
                  have hg2 : (some g' : Option Nat) = some g2 := hg2
                  rcases hob with h | h
                  · rw [h] at hg2
                    have : g2 = g := by simpa using hg2.symm
                    rw [this]; exact hmC g hg3.2
                  · rw [h] at hg2
                    have : g2 = W3.heap.size + 1 := by simpa using hg2.symm
                    rw [this]; exact hmC _ (hnew3 _ (Nat.le_succ _)),
                fun k hk => hmC k (hnew3 k (by simp at hsz1; omega)), rfl, by simp; omega⟩
            have hk' : mu = 2 * (rem (⟨some ⟨b, o, none⟩, .cons kk s1 nn pp cc kids rest, ec⟩ :: st)).length + (st.length + 1) := hk
            go_roundw
            case rel => exact ⟨_, NX⟩
            case measure =>
              have h3 : mu = waitsFor (nodesOf ts) W.heap.size Tin mine J (.slice (some ⟨g, 0, none⟩) (st.length + 1) cg) wr := MU.out
              rw [← h3]
              have h1 := waitsFor_le NX
              simp only [rem, nodesOf, List.length_append, List.length_cons] at h1 hk'
              omega
          · have JX : Hid (∃ pre, pre <+: nodesOf ts ∧ Jx pre W3) := Lib.hid ⟨pre ++ [x], ⟨_, SV.out.2.2.1⟩, hJx3⟩
            clear hJx3
            gi_wp2
            refine bodyPost_ret (results_none rfl _ _ _) rfl ?_
            exact ⟨⟨_, rfl⟩, .inr JX.out⟩

end Go.Proofs.YtnmhnaanpjlniaaGreat
