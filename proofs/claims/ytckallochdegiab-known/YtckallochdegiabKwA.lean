import Derived.Test.YtckallochdegiabKtA
import Derived.Deep.RegionHeld
namespace Go.Proofs.Ytckallochdegiab
set_option linter.unusedVariables false
set_option linter.unusedSimpArgs false
open Go.RowKit

/-- Does a way lead from u to v? -/
def conB (es : List Edg) (u v : Int) : Bool := labF (es.map key) u == labF (es.map key) v
theorem conB_iff {es : List Edg} {u v : Int} : conB es u v = true ↔ Rch es false 0 u v := by
  rw [conB, beq_iff_eq, labF_iff]
  constructor
  · intro h S h1 h2
    refine h S h1 (fun p hp => ?_)
    obtain ⟨e, he, rfl⟩ := List.mem_map.1 hp
    exact h2 e he rfl
  · intro h S h1 h2
    exact h S h1 (fun e he _ => h2 (key e) (List.mem_map.2 ⟨e, he, rfl⟩))
/-- A move: an edge that is there goes; one that isn't comes. -/
def mvG (q : Gr × Int) (m : Nat × Nat) : Gr × Int :=
  if findIx q.1.edges (min (m.1 : Int) m.2) (max (m.1 : Int) m.2) = -1 then (insG q.1 m.1 m.2 (!conB q.1.edges m.1 m.2), q.2)
  else delF q.1 q.2 (min (m.1 : Int) m.2) (max (m.1 : Int) m.2) (findIx q.1.edges (min (m.1 : Int) m.2) (max (m.1 : Int) m.2)).toNat
def mvs (n : Nat) (M : List (Nat × Nat)) : Gr × Int := M.foldl mvG (newG n, 0)
theorem mvs_more {n j : Nat} {M : List (Nat × Nat)} (h : j < M.length) : mvs n (M.take (j + 1)) = mvG (mvs n (M.take j)) (M[j]?.getD (0, 0)) := by
  rw [mvs, List.take_succ_eq_append_getElem h, List.foldl_append, get_eq h]; rfl

/-- A lot: how many vertices; moves; the file. -/
structure Lot where
  n : Nat
  M : List (Nat × Nat)
  file : ByteArray
/-- That it is a good one. -/
structure Lot.Ok (l : Lot) : Prop where
  n1 : 1 ≤ l.n
  n48 : l.n ≤ 48
  mv : ∀ p, p ∈ l.M → p.1 < l.n ∧ p.2 < l.n ∧ p.1 ≠ p.2
  len : l.M.length ≤ 100
  by_ : bytesB (mvs l.n l.M).1 = l.file
/-- The slice of its moves. -/
def MvAt (w : World) (v : Value) (M : List (Nat × Nat)) : Prop := ∃ p cap, v = .slice p (2 * M.length) cap ∧ 2 * M.length ≤ cap ∧ cap ≤ maxLen ∧ (0 < M.length → ∃ b, p = some ⟨b, 0, none⟩ ∧ TyAt w b 3 ∧ ∀ j, j < M.length → w.cell? ⟨b, 2 * j, none⟩ = some (.int .i64 ((M[j]?.getD (0, 0)).1 : Nat)) ∧ w.cell? ⟨b, 2 * j + 1, none⟩ = some (.int .i64 ((M[j]?.getD (0, 0)).2 : Nat)))
theorem MvAt.but {w w' : World} {v : Value} {M : List (Nat × Nat)} {S : Nat → Prop} (h : MvAt w v M) (k : But S w w') (hS : ∀ b, S b → ¬ TyAt w b 3) : MvAt w' v M := by
  obtain ⟨p, cap, h1, h2, h3, h4⟩ := h
  refine ⟨p, cap, h1, h2, h3, fun hp => ?_⟩
  obtain ⟨b, hb, ht, hc⟩ := h4 hp
  exact ⟨b, hb, ty_but ht k (fun q => hS b q ht), fun j hj => ⟨cell_but (hc j hj).1 k (fun q => hS b q ht), cell_but (hc j hj).2 k (fun q => hS b q ht)⟩⟩
theorem MvAt.below {w w' : World} {v : Value} {M : List (Nat × Nat)} (h : MvAt w v M) (k : Below w.heap.size w w') : MvAt w' v M := h.but (S := fun _ => False) (But.of k) (fun _ q => q.elim)

/-- The lot's copy, the index, the moves so far. -/
structure KwI (w0 wr : World) (lb a : Nat) (mv : Value) (l : Lot) (j : Nat) : Prop where
  row : wr.rowIs lb 85 3 (fun i => if i = 0 then .int .i64 l.n else if i = 1 then mv else .string l.file)
  mvl : MvAt wr mv l.M
  ix : IdxG wr a (mvs l.n (l.M.take j)).1 (mvs l.n (l.M.take j)).2
  gi : GI (mvs l.n (l.M.take j)).1
  ns : NS (mvs l.n (l.M.take j)).1
  gn : (mvs l.n (l.M.take j)).1.N = l.n
  ge : w0.heap.size ≤ a
  bel : Below w0.heap.size w0 wr
theorem KwI.below {w0 wr w' : World} {lb a : Nat} {mv : Value} {l : Lot} {j : Nat} (h : KwI w0 wr lb a mv l j) (k : Below wr.heap.size wr w') : KwI w0 w' lb a mv l j :=
  ⟨row_but (S := fun _ => False) h.row (But.of k) (fun q => q), h.mvl.below k, h.ix.below k, h.gi, h.ns, h.gn, h.ge, h.bel.trans (k.mono h.bel.size)⟩
theorem insG_N' (G : Gr) (u v : Int) (c : Bool) : (insG G u v c).N = G.N := by
  unfold insG
  split
  · rw [lnks_N]; rfl
  · rfl

/-- What a change of the index leaves. -/
theorem KwI.to {w0 wr w' : World} {lb a : Nat} {mv : Value} {l : Lot} {j i : Nat} (h : KwI w0 wr lb a mv l j) (k : But (fun q => q = a) wr w') (hx : IdxG w' a (mvs l.n (l.M.take i)).1 (mvs l.n (l.M.take i)).2) (gi : GI (mvs l.n (l.M.take i)).1) (ns : NS (mvs l.n (l.M.take i)).1) (gn : (mvs l.n (l.M.take i)).1.N = l.n) : KwI w0 w' lb a mv l i :=
  ⟨row_but h.row k (fun q => (rowIs_ty h.row).ne h.ix.ty (by decide) q), h.mvl.but k (fun b q t => by subst q; exact t.ne h.ix.ty (by decide) rfl), hx, gi, ns, gn, h.ge, h.bel.trans (k.below (fun q hq => by subst hq; exact h.ge) h.bel.size)⟩

/-- Is the edge of the next move there? -/
def Lot.no (l : Lot) (j : Nat) : Prop := findIx (mvs l.n (l.M.take j)).1.edges (min ((l.M[j]?.getD (0, 0)).1 : Int) (l.M[j]?.getD (0, 0)).2) (max ((l.M[j]?.getD (0, 0)).1 : Int) (l.M[j]?.getD (0, 0)).2) = -1
/-- Insert, of the next move, where it is not there. -/
theorem Ins_next {w0 w : World} {lb a : Nat} {mv : Value} {l : Lot} {j : Nat} (h : KwI w0 w lb a mv l j) (hl : l.Ok) (hj : j < l.M.length) (c : l.no j) :
    Calls Try.prog 45 #[ptr a, .int .i64 ((l.M[j]?.getD (0, 0)).1 : Nat), .int .i64 ((l.M[j]?.getD (0, 0)).2 : Nat)] w fun e w' => e = .returned (.int .i64 0) ∧ KwI w0 w' lb a mv l (j + 1) := by
  unfold Lot.no at c
  have hm := hl.mv (l.M[j]?.getD (0, 0)) (by rw [get_eq hj]; exact List.getElem_mem hj)
  have hs := mvs_more (n := l.n) hj
  have gn := h.gn
  generalize hp : l.M[j]?.getD (0, 0) = p at hm hs c
  obtain ⟨u, v⟩ := p
  simp only at hm c
  refine (Insert_new a _ _ u v (conB (mvs l.n (l.M.take j)).1.edges u v) w h.ix h.gi h.ns (by omega) (by omega) hm.2.2 c conB_iff).mono ?_
  rintro _ w' ⟨rfl, hx, hb⟩
  have e : mvs l.n (l.M.take (j + 1)) = (insG (mvs l.n (l.M.take j)).1 u v (!conB (mvs l.n (l.M.take j)).1.edges u v), (mvs l.n (l.M.take j)).2) := by rw [hs, mvG, if_pos c]
  have ok := ins_ok h.gi h.ns (u := (u : Int)) (v := (v : Int)) (by omega) (by omega) (by omega) (by omega) (by omega) c conB_iff
  exact ⟨rfl, h.to hb (by rw [e]; exact hx) (by rw [e]; exact ok.1) (by rw [e]; exact ok.2.1) (by rw [e]; show (insG _ _ _ _).N = _; rw [insG_N']; exact gn)⟩
/-- Insert, of the next move, where it is there. -/
theorem Ins_there {w0 w : World} {lb a : Nat} {mv : Value} {l : Lot} {j : Nat} (h : KwI w0 w lb a mv l j) (hl : l.Ok) (hj : j < l.M.length) (c : ¬ l.no j) :
    Calls Try.prog 45 #[ptr a, .int .i64 ((l.M[j]?.getD (0, 0)).1 : Nat), .int .i64 ((l.M[j]?.getD (0, 0)).2 : Nat)] w fun e w' => e = .returned (.int .i64 3) ∧ w' = w := by
  unfold Lot.no at c
  have hm := hl.mv (l.M[j]?.getD (0, 0)) (by rw [get_eq hj]; exact List.getElem_mem hj)
  have gn := h.gn
  generalize hp : l.M[j]?.getD (0, 0) = p at hm c
  obtain ⟨u, v⟩ := p
  simp only at hm c
  obtain ⟨k, hk⟩ := (find_cases (mvs l.n (l.M.take j)).1.edges (min (u : Int) v) (max (u : Int) v)).resolve_left c
  exact Insert_there a _ _ u v k w h.ix h.gi (by omega) (by omega) hm.2.2 hk
/-- Delete, of the next move, where it is there. -/
theorem Del_next {w0 w : World} {lb a : Nat} {mv : Value} {l : Lot} {j : Nat} (h : KwI w0 w lb a mv l j) (hl : l.Ok) (hj : j < l.M.length) (c : ¬ l.no j) :
    Calls Try.prog 46 #[ptr a, .int .i64 ((l.M[j]?.getD (0, 0)).1 : Nat), .int .i64 ((l.M[j]?.getD (0, 0)).2 : Nat)] w fun e w' => e = .returned (.int .i64 0) ∧ KwI w0 w' lb a mv l (j + 1) := by
  unfold Lot.no at c
  have hm := hl.mv (l.M[j]?.getD (0, 0)) (by rw [get_eq hj]; exact List.getElem_mem hj)
  have hs := mvs_more (n := l.n) hj
  have gn := h.gn
  generalize hp : l.M[j]?.getD (0, 0) = p at hm hs c
  obtain ⟨u, v⟩ := p
  simp only at hm c
  obtain ⟨k, hk⟩ := (find_cases (mvs l.n (l.M.take j)).1.edges (min (u : Int) v) (max (u : Int) v)).resolve_left c
  refine (Delete_old a _ _ u v k w h.ix h.gi h.ns (by omega) (by omega) hm.2.2 hk).mono ?_
  rintro _ w' ⟨rfl, ⟨G', pr', hx, hd, he⟩, hb⟩
  have e : mvs l.n (l.M.take (j + 1)) = (G', pr') := by rw [hs, mvG, if_neg c, hk, Int.toNat_natCast]; exact hd
  exact ⟨rfl, h.to hb (by rw [e]; exact hx) (by rw [e]; exact he.2.2.2.1) (by rw [e]; exact he.2.2.2.2) (by rw [e]; exact he.1.trans gn)⟩

/-- The cells that a round reads. -/
theorem KwI.cells {w0 w : World} {lb a : Nat} {p : Option Addr} {n c : Nat} {l : Lot} {i : Nat} (h : KwI w0 w lb a (.slice p n c) l i) : w.cell? ⟨lb, 1, none⟩ = some (.slice p n c) ∧ w.cell? ⟨lb, 1 + 1, none⟩ = some (.string l.file) ∧ (∀ j b, j < l.M.length → p = some ⟨b, 0, none⟩ → w.cell? ⟨b, 2 * j, none⟩ = some (.int .i64 ((l.M[j]?.getD (0, 0)).1 : Nat)) ∧ w.cell? ⟨b, 2 * j + 1, none⟩ = some (.int .i64 ((l.M[j]?.getD (0, 0)).2 : Nat))) := by
  refine ⟨h.row.cell (i := 1) (by omega), h.row.cell (i := 2) (by omega), fun j b hj hp => ?_⟩
  obtain ⟨q, cap, h1, _, _, h4⟩ := h.mvl
  obtain ⟨b', hb, _, hc⟩ := h4 (by omega)
  simp only [Value.slice.injEq] at h1
  rw [h1.1, hb] at hp
  simp only [Option.some.injEq, Addr.mk.injEq, and_true] at hp
  subst hp
  exact hc j hj

end Go.Proofs.Ytckallochdegiab
