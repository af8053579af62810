import Derived.Test.YtckallochdegiabKpB
import Derived.Deep.OwnRows
import Derived.Deep.RegionLaw
import Derived.Deep.DeepCutAuto
import Derived.Great.BuildSlice
namespace Go.Proofs.Ytckallochdegiab
set_option linter.unusedVariables false
set_option linter.unusedSimpArgs false
open Go.RowKit

theorem ownBlock_ne {w : World} {base : Nat} {e t : TypeId} {size : Nat} {v : Value} {n : Nat} {xs : List Value} (h : w.ownsRow base e size v n xs) {x m : Nat} {f : Nat → Value} (hx : w.rowIs x t m f) (ht : t ≠ e) : some x ≠ v.ownBlock := by
  intro k
  obtain ⟨c, hc, _⟩ := hx
  rcases h.2 with ⟨rfl, _⟩ | ⟨g, cap, cur, rfl, _, hg, _⟩
  · simp [Value.ownBlock] at k
  · simp only [Value.ownBlock, Option.some.injEq] at k
    subst k
    rw [hg] at hc
    simp only [Option.some.injEq, Obj.cells.injEq] at hc
    exact ht hc.2.1.symm

theorem rowIs_ne {w : World} {t t' : TypeId} {x y m k : Nat} {f g : Nat → Value} (hx : w.rowIs x t m f) (hy : w.rowIs y t' k g) (ht : t ≠ t') : x ≠ y := by
  rintro rfl
  obtain ⟨c, hc, _⟩ := hx
  obtain ⟨d, hd, _⟩ := hy
  rw [hc] at hd
  simp only [Option.some.injEq, Obj.cells.injEq] at hd
  exact ht hd.2.1

def sl (er : Nat → Nat) (n : Nat) : Nat → Value := fun u => .slice (some ⟨er u, 0, none⟩) n n
def ext (er : Nat → Nat) (k r : Nat) : Nat → Nat := fun u => if u = k then r else er u

/-- In the midst of 'begun': ke rows of edges, kl rows of levels have been made. -/
structure Mid (w : World) (B W a b n : Nat) (s3 s4 : Value) (ke kl : Nat) (ev lv : Value) (er lr : Nat → Nat) : Prop where
  rW : w.rowIs W 33 6 (wf n a b s3 s4 0)
  ra : IdxG w a (newG n) 0
  rb : IdxG w b (newG n) 0
  ab : a ≠ b
  oe : w.ownsRow B 44 1 ev ke ((List.range ke).map (sl er n))
  ol : w.ownsRow B 45 1 lv kl ((List.range kl).map (sl lr n))
  re : ∀ u, u < ke → w.rowIs (er u) 4 n (fun _ => .bool false)
  rl : ∀ u, u < kl → w.rowIs (lr u) 3 n (fun _ => .int .i64 0)
  ie : ∀ u v, u < ke → v < ke → er u = er v → u = v
  il : ∀ u v, u < kl → v < kl → lr u = lr v → u = v
  bW : B ≤ W
  ba : B ≤ a
  bb : B ≤ b
  be : ∀ u, u < ke → B ≤ er u
  bl : ∀ u, u < kl → B ≤ lr u

section
variable {w w' : World} {B W a b n : Nat} {s3 s4 : Value} {ke kl : Nat} {ev lv : Value} {er lr : Nat → Nat}

theorem Mid.drew (h : Mid w B W a b n s3 s4 ke kl ev lv er lr) : Mid w.drew B W a b n s3 s4 ke kl ev lv er lr :=
  ⟨h.rW, h.ra.below (Below.refl _ _).drew, h.rb.below (Below.refl _ _).drew, h.ab, h.oe, h.ol, h.re, h.rl, h.ie, h.il, h.bW, h.ba, h.bb, h.be, h.bl⟩

theorem Mid.alloc (h : Mid w B W a b n s3 s4 ke kl ev lv er lr) (o : Obj) : Mid (w.alloc o) B W a b n s3 s4 ke kl ev lv er lr :=
  ⟨h.rW.alloc o, h.ra.below ((Below.refl _ _).alloc (Nat.le_refl _) o), h.rb.below ((Below.refl _ _).alloc (Nat.le_refl _) o), h.ab, h.oe.alloc o, h.ol.alloc o, fun u hu => (h.re u hu).alloc o, fun u hu => (h.rl u hu).alloc o, h.ie, h.il, h.bW, h.ba, h.bb, h.be, h.bl⟩

theorem rowIs_grown {e t : TypeId} {size : Nat} {v : Value} {m : Nat} {xs : List Value} (h : w.ownsRow B e size v m xs) (g : w.grownBy w' v.ownBlock) {x k : Nat} {f : Nat → Value} (hx : w.rowIs x t k f) (ht : t ≠ e) : w'.rowIs x t k f :=
  hx.of_block (g.block x hx.lt (ownBlock_ne h hx ht))

theorem idx_grown {e : TypeId} {size : Nat} {v : Value} {m : Nat} {xs : List Value} {c : Nat} {G : Gr} {pr : Int} (h : w.ownsRow B e size v m xs) (g : w.grownBy w' v.ownBlock) (hx : IdxG w c G pr) (h1 : e ≠ 71) (h2 : e ≠ 118) : IdxG w' c G pr :=
  hx.but (But.grown g) (fun q => (owns_ty h q.symm).ne hx.ty h1 rfl) (fun k q _ r => (owns_ty h q.symm).ne r h2 rfl)

theorem owns_grown {e t : TypeId} {size size' : Nat} {v u : Value} {m k : Nat} {xs ys : List Value} (h : w.ownsRow B e size v m xs) (g : w.grownBy w' v.ownBlock) (hx : w.ownsRow B t size' u k ys) (ht : t ≠ e) : w'.ownsRow B t size' u k ys := by
  refine hx.kept g ?_
  rcases hx.2 with ⟨rfl, _⟩ | ⟨g, cap, cur, rfl, _, hg, _⟩
  · exact Or.inl rfl
  · refine Or.inr fun e => ?_
    exact ownBlock_ne h (x := g) (m := cur.size) (f := fun i => cur[i]?.getD default) (t := t) ⟨cur, hg, rfl, fun i hi => by simp [hi]⟩ ht e

theorem sl_ext (er : Nat → Nat) (k r n : Nat) : (List.range (k + 1)).map (sl (ext er k r) n) = (List.range k).map (sl er n) ++ [.slice (some ⟨r, 0, none⟩) n n] := by
  rw [List.range_succ, List.map_append]
  congr 1
  · apply List.map_congr_left
    intro u hu
    have := List.mem_range.1 hu
    simp [sl, ext, show u ≠ k by omega]
  · simp [sl, ext]

/-- A row of edges more. -/
theorem Mid.edge {v' : Value} {r : Nat} (h : Mid w B W a b n s3 s4 ke kl ev lv er lr) (hr : w.rowIs r 4 n (fun _ => .bool false)) (hne : ∀ u, u < ke → er u ≠ r) (hB : B ≤ r)
    (ho : w'.ownsRow B 44 1 v' (ke + 1) ((List.range ke).map (sl er n) ++ [.slice (some ⟨r, 0, none⟩) n n])) (g : w.grownBy w' ev.ownBlock) :
    Mid w' B W a b n s3 s4 (ke + 1) kl v' lv (ext er ke r) lr := by
  refine ⟨rowIs_grown h.oe g h.rW (by decide), idx_grown h.oe g h.ra (by decide) (by decide), idx_grown h.oe g h.rb (by decide) (by decide), h.ab, by rw [sl_ext]; exact ho, owns_grown h.oe g h.ol (by decide), ?_, fun u hu => rowIs_grown h.oe g (h.rl u hu) (by decide), ?_, h.il, h.bW, h.ba, h.bb, ?_, h.bl⟩
  · intro u hu
    by_cases e : u = ke
    · simp only [ext, e, if_pos]; exact rowIs_grown h.oe g hr (by decide)
    · simp only [ext, if_neg e]; exact rowIs_grown h.oe g (h.re u (by omega)) (by decide)
  · intro u v hu hv
    simp only [ext]
    by_cases e : u = ke <;> by_cases f : v = ke
    · intros; omega
    · rw [if_pos e, if_neg f]; intro q; exact absurd q.symm (hne v (by omega))
    · rw [if_neg e, if_pos f]; intro q; exact absurd q (hne u (by omega))
    · rw [if_neg e, if_neg f]; exact h.ie u v (by omega) (by omega)
  · intro u hu
    by_cases e : u = ke
    · simp only [ext, e, if_pos]; exact hB
    · simp only [ext, if_neg e]; exact h.be u (by omega)

/-- A row of levels more. -/
theorem Mid.level {v' : Value} {r : Nat} (h : Mid w B W a b n s3 s4 ke kl ev lv er lr) (hr : w.rowIs r 3 n (fun _ => .int .i64 0)) (hne : ∀ u, u < kl → lr u ≠ r) (hB : B ≤ r)
    (ho : w'.ownsRow B 45 1 v' (kl + 1) ((List.range kl).map (sl lr n) ++ [.slice (some ⟨r, 0, none⟩) n n])) (g : w.grownBy w' lv.ownBlock) :
    Mid w' B W a b n s3 s4 ke (kl + 1) ev v' er (ext lr kl r) := by
  refine ⟨rowIs_grown h.ol g h.rW (by decide), idx_grown h.ol g h.ra (by decide) (by decide), idx_grown h.ol g h.rb (by decide) (by decide), h.ab, owns_grown h.ol g h.oe (by decide), by rw [sl_ext]; exact ho, fun u hu => rowIs_grown h.ol g (h.re u hu) (by decide), ?_, h.ie, ?_, h.bW, h.ba, h.bb, h.be, ?_⟩
  · intro u hu
    by_cases e : u = kl
    · simp only [ext, e, if_pos]; exact rowIs_grown h.ol g hr (by decide)
    · simp only [ext, if_neg e]; exact rowIs_grown h.ol g (h.rl u (by omega)) (by decide)
  · intro u v hu hv
    simp only [ext]
    by_cases e : u = kl <;> by_cases f : v = kl
    · intros; omega
    · rw [if_pos e, if_neg f]; intro q; exact absurd q.symm (hne v (by omega))
    · rw [if_neg e, if_pos f]; intro q; exact absurd q (hne u (by omega))
    · rw [if_neg e, if_neg f]; exact h.il u v (by omega) (by omega)
  · intro u hu
    by_cases e : u = kl
    · simp only [ext, e, if_pos]; exact hB
    · simp only [ext, if_neg e]; exact h.bl u (by omega)

theorem owns_set {e : TypeId} {size : Nat} {v : Value} {m : Nat} {xs : List Value} (h : w.ownsRow B e size v m xs) {x k t : Nat} {f : Nat → Value} (hx : w.rowIs x t k f) (ht : t ≠ e) (o : Nat) (u : Value) : (w.setCell ⟨x, o, none⟩ u).ownsRow B e size v m xs := by
  refine h.kept (w' := w.setCell ⟨x, o, none⟩ u) (row := some x) ⟨rfl, rfl, rfl, by simp [World.setCell], fun i hi hne => Below.heap_setCell _ _ _ _ (by intro q; subst q; exact hne rfl)⟩ ?_
  exact Or.inr fun q => ownBlock_ne h hx ht q.symm

/-- The two stores into the law's world. -/
theorem Mid.store (h : Mid w B W a b n s3 s4 ke kl ev lv er lr) (v3 v4 : Value) : Mid ((w.setCell ⟨W, 3, none⟩ v3).setCell ⟨W, 4, none⟩ v4) B W a b n v3 v4 ke kl ev lv er lr := by
  have hW := (h.rW.set 3 v3)
  have nW : ∀ {x t m f}, w.rowIs x t m f → t ≠ 33 → x ≠ W := fun hx ht => rowIs_ne hx h.rW ht
  have two : ∀ {x t m f}, w.rowIs x t m f → t ≠ 33 → ((w.setCell ⟨W, 3, none⟩ v3).setCell ⟨W, 4, none⟩ v4).rowIs x t m f := fun hx ht => (hx.setOther (nW hx ht) _).setOther (nW hx ht) _
  refine ⟨((h.rW.set 3 v3).set 4 v4).congr ?_, idx_set (idx_set h.ra (rowIs_ty h.rW) (by decide) (by decide) _) (rowIs_ty hW) (by decide) (by decide) _, idx_set (idx_set h.rb (rowIs_ty h.rW) (by decide) (by decide) _) (rowIs_ty hW) (by decide) (by decide) _, h.ab, owns_set (owns_set h.oe h.rW (by decide) 3 v3) hW (by decide) 4 v4, owns_set (owns_set h.ol h.rW (by decide) 3 v3) hW (by decide) 4 v4,
    fun u hu => two (h.re u hu) (by decide), fun u hu => two (h.rl u hu) (by decide), h.ie, h.il, h.bW, h.ba, h.bb, h.be, h.bl⟩
  intro i hi
  simp only [wf]
  by_cases e4 : i = 4
  · subst e4; simp
  · by_cases e3 : i = 3
    · subst e3; simp
    · simp [e3, e4]
end

theorem owns_row {w : World} {B : Nat} {e : TypeId} {k : Nat} {v : Value} {xs : List Value} (h : w.ownsRow B e 1 v k xs) (hk : 1 ≤ k) :
    ∃ g cap, v = .slice (some ⟨g, 0, none⟩) k cap ∧ TyAt w g e ∧ B ≤ g ∧ k ≤ cap ∧ cap ≤ maxLen ∧ ∀ j u, xs[j]? = some u → w.cell? ⟨g, j, none⟩ = some u := by
  have hc := fun g hg => h.cells (g := g) hg
  rcases h.2 with ⟨_, h0⟩ | ⟨g, cap, cur, hv, hB, hg, hle, hmx, _⟩
  · omega
  · refine ⟨g, cap, hv, ⟨cur, hg⟩, hB, hle, hmx, fun j u hj => ?_⟩
    have := hc g (by rw [hv]; rfl) j u hj
    rw [addr_add, Nat.zero_add] at this
    exact this

theorem mid_done {w : World} {B W a b n : Nat} {ev lv : Value} {er lr : Nat → Nat} (h : Mid w B W a b n ev lv n n ev lv er lr) (n1 : 1 ≤ n) (n48 : n ≤ 48) :
    ∃ g E G pr, Inv w g W n E G pr ∧ Apart g W B n ∧ LX w g W n G pr 0 := by
  obtain ⟨eb, ecap, he, te, hBe, he1, he2, ce⟩ := owns_row h.oe n1
  obtain ⟨lb, lcap, hl, tl, hBl, hl1, hl2, cl⟩ := owns_row h.ol n1
  refine ⟨⟨a, b, eb, lb, ecap, lcap, er, lr⟩, fun _ _ => false, newG n, 0, ⟨⟨⟨0, ?_⟩, ?_, ?_, te, tl, h.re, fun u hu => ⟨fun _ => 0, h.rl u hu⟩⟩, h.ra, ⟨0, h.rb⟩, rfl, (newG_ok n1 n48).1, (newG_ok n1 n48).2, ?_⟩, ⟨h.ab, h.ie, h.il, n48, n1, h.bW, h.ba, h.bb, h.be, h.bl, ⟨he1, he2⟩, ⟨hl1, hl2⟩⟩, 0, fun _ _ => 0, Nat.le_refl _, ⟨h.rW.cell (i := 5) (by omega), h.rl⟩, ⟨Int.le_refl _, by simp [newG, sumL]⟩, fun e he => by simp [newG] at he⟩
  · have := h.rW
    rw [he, hl] at this
    exact this
  · intro u hu; exact ce u _ (by simp [hu, sl])
  · intro u hu; exact cl u _ (by simp [hu, sl])
  · intro u v _ _
    simp [HasE, newG]

theorem Try.info44 : (Try.prog.info? 44).map (fun i => (i.zero, i.size, i.bytes)) = some (some (.slice none 0 0), 1, 24) := by kernel_rfl
theorem Try.info45 : (Try.prog.info? 45).map (fun i => (i.zero, i.size, i.bytes)) = some (some (.slice none 0 0), 1, 24) := by kernel_rfl
theorem Try.info4 : (Try.prog.info? 4).map (fun i => (i.zero, i.size, i.bytes)) = some (some (.bool false), 1, 1) := by kernel_rfl

def cW (n : Nat) : Array Value := #[.int .i64 n, .pointer none, .pointer none, .slice none 0 0, .slice none 0 0, .int .i64 0]

/-- What the two News and the stores of their indexes leave. -/
theorem start_mid {n a b : Nat} {w w1 w2 : World} (h1 : IdxG w1 a (newG n) 0) (b1 : Below (w.alloc (.cells (cW n) 33)).heap.size (w.alloc (.cells (cW n) 33)) w1) (ha : w.heap.size < a) (h2 : IdxG w2 b (newG n) 0) (b2 : Below w1.heap.size w1 w2) (hb : w1.heap.size ≤ b) (hab : a < w1.heap.size) :
    Mid ((w2.setCell ⟨w.heap.size, 1, none⟩ (ptr a)).setCell ⟨w.heap.size, 2, none⟩ (ptr b)) w.heap.size w.heap.size a b n (.slice none 0 0) (.slice none 0 0) 0 0 (.slice none 0 0) (.slice none 0 0) (fun _ => 0) (fun _ => 0) ∧
    Below w.heap.size w ((w2.setCell ⟨w.heap.size, 1, none⟩ (ptr a)).setCell ⟨w.heap.size, 2, none⟩ (ptr b)) ∧ w2.rowIs w.heap.size 33 6 (fun i => (cW n)[i]?.getD default) := by
  have r0 : (w.alloc (.cells (cW n) 33)).rowIs w.heap.size 33 6 (fun i => (cW n)[i]?.getD default) := World.rowIs_alloc w (cW n) 33 _ (fun i hi => by simp [hi])
  have r2 := row_but (S := fun _ => False) (row_but (S := fun _ => False) r0 (But.of b1) (fun q => q)) (But.of b2) (fun q => q)
  have t2 := rowIs_ty r2
  have t3 := rowIs_ty (r2.set 1 (ptr a))
  have s1 := b1.size
  have s2 := b2.size
  simp only [World.size_alloc] at s1
  have L : Below w.heap.size w w2 := (((Below.refl _ _).alloc (Nat.le_refl _) _).trans (b1.mono (by simp))).trans (b2.mono (by omega))
  refine ⟨⟨((r2.set 1 _).set 2 _).congr ?_, idx_set (idx_set (h1.below b2) t2 (by decide) (by decide) _) t3 (by decide) (by decide) _, idx_set (idx_set h2 t2 (by decide) (by decide) _) t3 (by decide) (by decide) _, by omega, World.ownsRow_nil _ _ _ _, World.ownsRow_nil _ _ _ _, fun u hu => by omega, fun u hu => by omega, fun u v hu => by omega, fun u v hu => by omega, by omega, by omega, by omega, fun u hu => by omega, fun u hu => by omega⟩, (L.setCell (by simp) _).setCell (by simp) _, r2⟩
  intro i hi
  simp only [wf, cW]
  match i, hi with
  | 0, _ => simp
  | 1, _ => simp
  | 2, _ => simp
  | 3, _ => simp
  | 4, _ => simp
  | 5, _ => simp

/-- The world at the append of a row: the row itself and the one-element slice that holds it have been laid. -/
def atAdd (w : World) (z : Value) (n t e : Nat) : World := ((w.alloc (.cells (madeCells #[z] n) t)).alloc (.cells #[.slice (some ⟨w.heap.size, 0, none⟩) n n] e)).drew

theorem atAdd_cell (w : World) (z : Value) (n t e : Nat) (j : Nat) (u : Value) (h : [Value.slice (some ⟨w.heap.size, 0, none⟩) n n][j]? = some u) : (atAdd w z n t e).cell? ((⟨w.heap.size + 1, 0, none⟩ : Addr).add j) = some u := by
  match j, h with
  | 0, h =>
    simp only [List.getElem?_cons_zero, Option.some.injEq] at h
    subst h
    have r := World.rowIs_alloc (w.alloc (.cells (madeCells #[z] n) t)) #[.slice (some ⟨w.heap.size, 0, none⟩) n n] e (fun _ => .slice (some ⟨w.heap.size, 0, none⟩) n n) (fun i hi => by simp only [List.size_toArray, List.length_cons, List.length_nil] at hi; rw [show i = 0 by omega]; rfl)
    rw [show (w.alloc (.cells (madeCells #[z] n) t)).heap.size = w.heap.size + 1 from by simp] at r
    exact r.cell (i := 0) (by simp)
  | j + 1, h => simp at h

theorem atAdd_one (w : World) (n : Nat) (u : Value) (h : u ∈ [Value.slice (some ⟨w.heap.size, 0, none⟩) n n]) : u.oneCell' = true := by
  simp only [List.mem_singleton] at h; subst h; rfl
theorem atAdd_size (w : World) (z : Value) (n t e : Nat) : (atAdd w z n t e).heap.size = w.heap.size + 2 := by show ((w.alloc _).alloc _).heap.size = _; simp
theorem atAdd_ge {B : Nat} {w : World} (z : Value) (n t e : Nat) (h : B ≤ w.heap.size) : B ≤ (atAdd w z n t e).heap.size := by rw [atAdd_size]; omega
theorem atAdd_row (w : World) (z : Value) (n t e : Nat) : (atAdd w z n t e).rowIs w.heap.size t n (fun _ => z) := ((World.rowIs_made w z n t).alloc _).drew
theorem atAdd_below {B : Nat} {a w : World} (z : Value) (n t e : Nat) (h : Below B a w) (hB : B ≤ w.heap.size) : Below B a (atAdd w z n t e) := ((h.alloc hB _).alloc (by simp; omega) _).drew

section
variable {w w0 : World} {B W a b n : Nat} {s3 s4 : Value} {ke kl : Nat} {ev lv : Value} {er lr : Nat → Nat}
theorem Mid.atAdd (h : Mid w B W a b n s3 s4 ke kl ev lv er lr) (z : Value) (m t e : Nat) : Mid (Go.Proofs.Ytckallochdegiab.atAdd w z m t e) B W a b n s3 s4 ke kl ev lv er lr := ((h.alloc _).alloc _).drew

theorem owns_slice {e : TypeId} {v : Value} {k : Nat} {xs : List Value} (h : w.ownsRow B e 1 v (k + 1) xs) : ∃ g cap, v = .slice (some ⟨g, 0, none⟩) (k + 1) cap := by
  rcases h.2 with ⟨_, h0⟩ | ⟨g, cap, cur, hv, _⟩
  · omega
  · exact ⟨g, cap, hv⟩

theorem owns_ge {e : TypeId} {v : Value} {k : Nat} {xs : List Value} (h : w.ownsRow B e 1 v k xs) : ∀ i, v.ownBlock = some i → B ≤ i := fun i hi => (h.lt i hi).1

theorem add_edge {v' : Value} {w' : World} (h : Mid w B W a b n s3 s4 ke kl ev lv er lr) (hB : B ≤ w.heap.size) (L : Below B w0 w)
    (ho : w'.ownsRow B 44 1 v' (ke + 1) ((List.range ke).map (sl er n) ++ [.slice (some ⟨w.heap.size, 0, none⟩) n n])) (g : (atAdd w (.bool false) n 4 44).grownBy w' ev.ownBlock) :
    ∃ g cap, v' = .slice (some ⟨g, 0, none⟩) (ke + 1) cap ∧ Hid (∃ er', Mid w' B W a b n s3 s4 (ke + 1) kl v' lv er' lr) ∧ Hid (Below B w0 w') := by
  obtain ⟨q, cap, hv⟩ := owns_slice ho
  have h2 := h.atAdd (.bool false) n 4 44
  refine ⟨q, cap, hv, ⟨_, h2.edge (atAdd_row w _ n 4 44) (fun u hu => ?_) hB ho g⟩, (atAdd_below _ n 4 44 L hB).grown g (by rw [atAdd_size]; omega) (owns_ge h.oe)⟩
  have := (h.re u hu).lt; omega

theorem add_level {v' : Value} {w' : World} (h : Mid w B W a b n s3 s4 ke kl ev lv er lr) (hB : B ≤ w.heap.size) (L : Below B w0 w)
    (ho : w'.ownsRow B 45 1 v' (kl + 1) ((List.range kl).map (sl lr n) ++ [.slice (some ⟨w.heap.size, 0, none⟩) n n])) (g : (atAdd w (.int .i64 0) n 3 45).grownBy w' lv.ownBlock) :
    ∃ g cap, v' = .slice (some ⟨g, 0, none⟩) (kl + 1) cap ∧ Hid (∃ lr', Mid w' B W a b n s3 s4 ke (kl + 1) ev v' er lr') ∧ Hid (Below B w0 w') := by
  obtain ⟨q, cap, hv⟩ := owns_slice ho
  have h2 := h.atAdd (.int .i64 0) n 3 45
  refine ⟨q, cap, hv, ⟨_, h2.level (atAdd_row w _ n 3 45) (fun u hu => ?_) hB ho g⟩, (atAdd_below _ n 3 45 L hB).grown g (by rw [atAdd_size]; omega) (owns_ge h.ol)⟩
  have := (h.rl u hu).lt; omega
end
set_option maxRecDepth 100000 in
set_option maxHeartbeats 1000000 in
theorem begun_any (x y : Int) (w : World) (hx1 : -9223372036854775808 ≤ x) (hx2 : x ≤ 9223372036854775807) (hy1 : -9223372036854775808 ≤ y) (hy2 : y ≤ 9223372036854775807) :
    Calls Try.prog 12 #[.int .i64 x, .int .i64 y] w fun e w' => ∃ W n g E G pr, e = .returned (.tuple #[ptr W, .bool true]) ∧ Inv w' g W n E G pr ∧ Apart g W w.heap.size n ∧ LX w' g W n G pr 0 ∧ Below w.heap.size w w' := by
  obtain ⟨a0, a1⟩ := pk_range x 48 (by omega)
  obtain ⟨b0, b1⟩ := pk_range y 1048576 (by omega)
  obtain ⟨n, hn⟩ := Int.eq_ofNat_of_zero_le (show 0 ≤ 1 + pk x 48 by omega)
  have Hn : Hid (1 + pk x 48 = (n : Int)) := hn
  have n1 : 1 ≤ (n : Int) := by omega
  have n2 : (n : Int) ≤ 48 := by omega
  clear hn
  go_enter Try.func12, Try.ntmps12
  go_wp2_with fail
  refine (pick_any x 48 _ (by omega) hx1 hx2).mono ?_
  rintro e w' ⟨rfl, hw⟩
  replace hw := hw.symm
  subst hw
  have hcw : Hid (#[Value.int .i64 n, .pointer none, .pointer none, .slice none 0 0, .slice none 0 0, .int .i64 0] = cW n) := by show _ = _; rfl
  go_wp2_with fail
  rw [Hn.out, hcw.out]
  have HSa : Hid ((w.alloc (.cells (cW n) 33)).heap.size = w.heap.size + 1) := by show _ = _; simp
  have hN1 := New_ok n y (w.alloc (.cells (cW n) 33)) (by omega) (by omega)
  have HN1 := hid hN1
  clear hN1
  refine HN1.out.mono ?_
  rintro e w1 ⟨rfl, hi1, hs1, hb1⟩
  rw [HSa.out] at hi1 hs1 ⊢
  have HI1 := hid (new_idxG hi1)
  have HB1 := hid hb1
  clear hi1 hb1 HN1
  go_wp2_with fail
  refine (pick_any y 1048576 _ (by omega) hy1 hy2).mono ?_
  rintro e w' ⟨rfl, hw⟩
  replace hw := hw.symm
  subst hw
  go_wp2_with fail
  refine (New_ok n _ w1 (by omega) (by omega)).mono ?_
  rintro e w2 ⟨rfl, hi2, hs2, hb2⟩
  obtain ⟨M, L, r2⟩ := start_mid HI1.out HB1.out (by omega) (new_idxG hi2) hb2 (Nat.le_refl _) (by omega)
  have c1 := r2.cell (i := 1) (by omega)
  have c2 := r2.cell (i := 2) (by omega)
  have f1 := r2.frozen
  have HM : Hid (∃ v3 v4 er lr, Mid ((w2.setCell ⟨w.heap.size, 1, none⟩ (ptr (w.heap.size + 1))).setCell ⟨w.heap.size, 2, none⟩ (ptr w1.heap.size)) w.heap.size w.heap.size (w.heap.size + 1) w1.heap.size n v3 v4 0 0 v3 v4 er lr) := ⟨_, _, _, _, M⟩
  have HL := hid L
  have HRf := hid r2
  clear M L hi2 hb2 hs2 HI1 HB1 r2
  generalize hbb : w1.heap.size = bb at HM HL ⊢
  clear hbb hs1
  go_wp2_with fail
  go_loopw [11] (fun i wr => ∃ k : Nat, k ≤ n ∧ i = .int .i64 k ∧ Hid (∃ v3 v4 er lr, Mid wr w.heap.size w.heap.size (w.heap.size + 1) bb n v3 v4 k k v3 v4 er lr) ∧ Hid (Below w.heap.size w wr)) (fun i _ => n - (intOf i).toNat)
  case atStart => exact ⟨0, by omega, rfl, HM, HL⟩
  case round =>
    obtain ⟨k, hk, rfl, hM, hL⟩ := hrel
    clear HM HL c1 c2 f1
    by_cases hlt : k < n
    · obtain ⟨ev, lv, er, lr, hM⟩ := hM.out
      have HM : Hid (Mid wr w.heap.size w.heap.size (w.heap.size + 1) bb n ev lv k k ev lv er lr) := hM
      have c3 : wr.cell? ⟨w.heap.size, 3, none⟩ = some ev := hM.rW.cell (by omega)
      have c4 : wr.cell? ⟨w.heap.size, 4, none⟩ = some lv := hM.rW.cell (by omega)
      have f3 := hM.rW.frozen
      clear hM
      obtain ⟨i39, q0, q1, q2, q3⟩ := info_parts Try.info44
      obtain ⟨i40, p0, p1, p2, p3⟩ := info_parts Try.info45
      have hmb := run_make_row' (P := Try.prog) 44 4 (.bool false) 1 Try.underlying44 Try.info4 rfl .i64 .i64 n (by omega) (by omega)
      have hmi := run_make_row' (P := Try.prog) 45 3 (.int .i64 0) 8 Try.underlying45 Try.info3 rfl .i64 .i64 n (by omega) (by omega)
      go_wp2_with fail
      go_cut [12] from 51 to 79 (fun e wc => ∃ g cap, e = .slice (some ⟨g, 0, none⟩) (k + 1) cap ∧ Hid (∃ er', Mid wc w.heap.size w.heap.size (w.heap.size + 1) bb n ev lv (k + 1) k e lv er' lr) ∧ Hid (Below w.heap.size w wc))
      case first =>
        have hB : w.heap.size ≤ wr.heap.size := hL.out.size
        have HB : Hid (w.heap.size ≤ wr.heap.size) := hB
        have c3a : ∀ o, (wr.alloc o).cell? ⟨w.heap.size, 3, none⟩ = some ev := fun o => (HM.out.alloc o).rW.cell (by omega)
        have c3b : ∀ o p, ((wr.alloc o).alloc p).cell? ⟨w.heap.size, 3, none⟩ = some ev := fun o p => ((HM.out.alloc o).alloc p).rW.cell (by omega)
        have HK : Hid (k + 1 ≤ maxLen) := by show k + 1 ≤ maxLen; unfold maxLen; omega
        clear hB
        go_region_law (refine step_append_mine rfl (.tmp 59) (.tmp 62) 30 rfl w.heap.size 44 i39 (.slice none 0 0) 1 24 Try.underlying30 q0 q1 q2 q3 rfl (by decide) ev k ((List.range k).map (sl er n)) rfl (HM.out.atAdd (.bool false) n 4 44).oe ⟨wr.heap.size + 1, 0, none⟩ 1 1 [.slice (some ⟨wr.heap.size, 0, none⟩) n n] rfl rfl (atAdd_cell wr (.bool false) n 4 44) (atAdd_one wr n) HK.out (by omega) (atAdd_ge (.bool false) n 4 44 HB.out) ?_; intro v' w' ho hg)
        all_goals
          have R := add_edge HM.out HB.out hL.out ho hg
          clear ho hg
          obtain ⟨gg, cap, hv, R2, R3⟩ := R
          go_wp2
          go_meet
          case rel => exact ⟨gg, cap, hv, R2, R3⟩
      case rest =>
        obtain ⟨gg, cap, rfl, R2, R3⟩ := hcut
        obtain ⟨er2, hM2⟩ := R2.out
        have HM2 : Hid (Mid wc w.heap.size w.heap.size (w.heap.size + 1) bb n ev lv (k + 1) k (.slice (some ⟨gg, 0, none⟩) (k + 1) cap) lv er2 lr) := hM2
        clear hM2 R2 c3 c4 HM hL hM
        have c4 : wc.cell? ⟨w.heap.size, 4, none⟩ = some lv := HM2.out.rW.cell (by omega)
        have c4a : ∀ o, (wc.alloc o).cell? ⟨w.heap.size, 4, none⟩ = some lv := fun o => (HM2.out.alloc o).rW.cell (by omega)
        have c4b : ∀ o p, ((wc.alloc o).alloc p).cell? ⟨w.heap.size, 4, none⟩ = some lv := fun o p => ((HM2.out.alloc o).alloc p).rW.cell (by omega)
        go_wp2_with fail
        go_cut [13] from 51 to 79 (fun e wd => ∃ g cap', e = .slice (some ⟨g, 0, none⟩) (k + 1) cap' ∧ Hid (∃ lr', Mid wd w.heap.size w.heap.size (w.heap.size + 1) bb n ev lv (k + 1) (k + 1) (.slice (some ⟨gg, 0, none⟩) (k + 1) cap) e er2 lr') ∧ Hid (Below w.heap.size w wd))
        case first =>
          have HB : Hid (w.heap.size ≤ wc.heap.size) := R3.out.size
          have HK : Hid (k + 1 ≤ maxLen) := by show k + 1 ≤ maxLen; unfold maxLen; omega
          go_region_law (refine step_append_mine rfl (.tmp 67) (.tmp 70) 31 rfl w.heap.size 45 i40 (.slice none 0 0) 1 24 Try.underlying31 p0 p1 p2 p3 rfl (by decide) lv k ((List.range k).map (sl lr n)) rfl (HM2.out.atAdd (.int .i64 0) n 3 45).ol ⟨wc.heap.size + 1, 0, none⟩ 1 1 [.slice (some ⟨wc.heap.size, 0, none⟩) n n] rfl rfl (atAdd_cell wc (.int .i64 0) n 3 45) (atAdd_one wc n) HK.out (by omega) (atAdd_ge (.int .i64 0) n 3 45 HB.out) ?_; intro v' w' ho hg)
          all_goals
            have R := add_level HM2.out HB.out R3.out ho hg
            clear ho hg
            obtain ⟨g2, cap2, hv, R4, R5⟩ := R
            go_wp2
            go_meet
            case rel => exact ⟨g2, cap2, hv, R4, R5⟩
        case rest =>
          clear c4 c4a c4b HM2 R3
          obtain ⟨g2, cap2, rfl, R4, R5⟩ := hcut
          obtain ⟨lr2, hM3⟩ := R4.out
          have HM3 : Hid (Mid wc w.heap.size w.heap.size (w.heap.size + 1) bb n ev lv (k + 1) (k + 1) (.slice (some ⟨gg, 0, none⟩) (k + 1) cap) (.slice (some ⟨g2, 0, none⟩) (k + 1) cap2) er2 lr2) := hM3
          have c3 : wc.cell? ⟨w.heap.size, 3, none⟩ = some ev := hM3.rW.cell (by omega)
          have c4 : wc.cell? ⟨w.heap.size, 4, none⟩ = some lv := hM3.rW.cell (by omega)
          have f3 := hM3.rW.frozen
          clear R4 hM3
          go_wp2_with fail
          go_roundw
          case rel => exact ⟨k + 1, by omega, by go_num, ⟨_, _, _, _, HM3.out.store _ _⟩, (R5.out.setCell (Nat.le_refl _) _).setCell (Nat.le_refl _) _⟩
          case measure => simp [intOf]; omega
    · have hkn : k = n := by omega
      go_wp2_with fail
      refine (New_bad 0 y _ (by omega)).mono ?_
      rintro e w3 ⟨rfl, hw3⟩
      rw [hw3]; clear hw3 w3
      go_wp2_with fail
      refine (New_bad 49 y _ (by omega)).mono ?_
      rintro e w3 ⟨rfl, hw3⟩
      rw [hw3]; clear hw3 w3
      go_wp2_with fail
      go_ret2
      obtain ⟨v3, v4, er, lr, hM⟩ := hM.out
      rw [hkn] at hM
      obtain ⟨g, E, G, pr, I, A, X⟩ := mid_done hM (by omega) (by omega)
      exact ⟨w.heap.size, n, g, E, G, pr, rfl, I, A, X, hL.out⟩

end Go.Proofs.Ytckallochdegiab
