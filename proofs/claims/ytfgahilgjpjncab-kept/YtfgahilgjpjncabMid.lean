import Derived.Test.YtfgahilgjpjncabMany
import Derived.Deep.OwnRows
import Derived.Deep.RegionLaw
namespace Go.Proofs.Ytfgahilgjpjncab
open Go.RowKit

/-- 'append' to a row that the call owns, as one step of a region that draws its order. -/
theorem step_append_mine {P : Program} {ops : Array Oper} {o : Oper} {a : Act} {w : World} {K : Act → World → Prop} {Q : Exit → Act → World → Prop} {E : Prop}
    (hg : o.guard = none) (s x : Operand) (t : TypeId) (hop : o.op = Op.call { callee := Callee.builtin Builtin.append, args := #[s, x], argTypes := #[t, t] })
    (base : Nat) (e : TypeId) (i : TypeInfo) (z : Value) (size bytes : Nat) (h1 : P.underlying t = some (.slice e)) (h2 : P.info? e = some i) (h3 : i.zero = some z) (h4 : i.size = size) (h5 : i.bytes = bytes) (h6 : z.cells.size = size) (h7 : 0 < size)
    (v : Value) (n : Nat) (xs : List Value) (hs : a.eval s = v) (hown : w.ownsRow base e size v n xs)
    (ad : Addr) (m c : Nat) (news : List Value) (hx : a.eval x = .slice (some ad) m c) (hn : news.length = m * size) (hc : ∀ j u, news[j]? = some u → w.cell? (ad.add j) = some u) (h1c : ∀ u ∈ news, u.oneCell' = true)
    (b1 : n + m ≤ maxLen) (b2 : (n + m) * bytes ≤ 140737488355328) (hbase : base ≤ w.heap.size)
    (hK : ∀ v' w', w'.ownsRow base e size v' (n + m) (xs ++ news) → w.grownBy w' v.ownBlock → K (a.put o.dst v') w') :
    if Region.wanted o (yielded ops a.tmps) = true then Oper.wp P o a w K Q else E := by
  have hw : Region.wanted o (yielded ops a.tmps) = true := by simp [Region.wanted, hg]
  rw [if_pos hw]
  obtain ⟨v', w', hrun, r1, r2, _⟩ := run_append_own (P := P) w base t o.type e i z size bytes h1 h2 h3 h4 h5 h6 h7 v n xs hown ad m c news hn hc h1c b1 b2 hbase
  unfold Oper.wp
  simp [execOp, hop, resolve, invoke, builtin, hs, hx, hrun, Result.andThen]
  exact hK v' w' r1 r2

theorem ownBlock_ne {w : World} {base : Nat} {e t : TypeId} {size : Nat} {v : Value} {n : Nat} {xs : List Value} (h : w.ownsRow base e size v n xs) {x m : Nat} {f : Nat → Value} (hx : w.rowIs x t m f) (ht : t ≠ e) : some x ≠ v.ownBlock := by
  intro k
  obtain ⟨c, hc, _⟩ := hx
  rcases h.2 with ⟨rfl, _⟩ | ⟨g, cap, cur, rfl, _, hg, _⟩
  · simp [Value.ownBlock] at k
  · simp only [Value.ownBlock, Option.some.injEq] at k
    subst k
    rw [hg] at hc
    simp only [Option.some.injEq, Obj.cells.injEq] at hc
    exact ht hc.2.1.symm

theorem rowIs_ne {w : World} {t t' : TypeId} {x y m k : Nat} {f g : Nat → Value} (hx : w.rowIs x t m f) (hy : w.rowIs y t' k g) (ht : t ≠ t') : x ≠ y := by
  rintro rfl
  obtain ⟨c, hc, _⟩ := hx
  obtain ⟨d, hd, _⟩ := hy
  rw [hc] at hd
  simp only [Option.some.injEq, Obj.cells.injEq] at hd
  exact ht hd.2.1

/-- The cells of the law's world. -/
def wf (n a b : Nat) (s3 s4 : Value) : Nat → Value := fun i => if i = 0 then .int .i64 n else if i = 1 then ptr a else if i = 2 then ptr b else if i = 3 then s3 else if i = 4 then s4 else .int .i64 0
/-- The cells of an index without edges. -/
def xf (n : Nat) : Nat → Value := fun i => if i = 0 then .int .i64 n else .bool false
def sl (er : Nat → Nat) (n : Nat) : Nat → Value := fun u => .slice (some ⟨er u, 0, none⟩) n n
def ext (er : Nat → Nat) (k r : Nat) : Nat → Nat := fun u => if u = k then r else er u

/-- In the midst of 'begun': ke rows of edges, kl rows of levels have been made. -/
structure Mid (w : World) (B W a b n : Nat) (s3 s4 : Value) (ke kl : Nat) (ev lv : Value) (er lr : Nat → Nat) : Prop where
  rW : w.rowIs W 31 6 (wf n a b s3 s4)
  ra : w.rowIs a 45 2305 (xf n)
  rb : w.rowIs b 45 2305 (xf n)
  ab : a ≠ b
  oe : w.ownsRow B 39 1 ev ke ((List.range ke).map (sl er n))
  ol : w.ownsRow B 40 1 lv kl ((List.range kl).map (sl lr n))
  re : ∀ u, u < ke → w.rowIs (er u) 4 n (fun _ => .bool false)
  rl : ∀ u, u < kl → w.rowIs (lr u) 3 n (fun _ => .int .i64 0)
  ie : ∀ u v, u < ke → v < ke → er u = er v → u = v
  il : ∀ u v, u < kl → v < kl → lr u = lr v → u = v
  bW : B ≤ W
  ba : B ≤ a
  bb : B ≤ b
  be : ∀ u, u < ke → B ≤ er u
  bl : ∀ u, u < kl → B ≤ lr u

section
variable {w w' : World} {B W a b n : Nat} {s3 s4 : Value} {ke kl : Nat} {ev lv : Value} {er lr : Nat → Nat}

theorem Mid.drew (h : Mid w B W a b n s3 s4 ke kl ev lv er lr) : Mid w.drew B W a b n s3 s4 ke kl ev lv er lr :=
  ⟨h.rW, h.ra, h.rb, h.ab, h.oe, h.ol, h.re, h.rl, h.ie, h.il, h.bW, h.ba, h.bb, h.be, h.bl⟩

theorem Mid.alloc (h : Mid w B W a b n s3 s4 ke kl ev lv er lr) (o : Obj) : Mid (w.alloc o) B W a b n s3 s4 ke kl ev lv er lr :=
  ⟨h.rW.alloc o, h.ra.alloc o, h.rb.alloc o, h.ab, h.oe.alloc o, h.ol.alloc o, fun u hu => (h.re u hu).alloc o, fun u hu => (h.rl u hu).alloc o, h.ie, h.il, h.bW, h.ba, h.bb, h.be, h.bl⟩

theorem rowIs_grown {e t : TypeId} {size : Nat} {v : Value} {m : Nat} {xs : List Value} (h : w.ownsRow B e size v m xs) (g : w.grownBy w' v.ownBlock) {x k : Nat} {f : Nat → Value} (hx : w.rowIs x t k f) (ht : t ≠ e) : w'.rowIs x t k f :=
  hx.of_block (g.block x hx.lt (ownBlock_ne h hx ht))

theorem owns_grown {e t : TypeId} {size size' : Nat} {v u : Value} {m k : Nat} {xs ys : List Value} (h : w.ownsRow B e size v m xs) (g : w.grownBy w' v.ownBlock) (hx : w.ownsRow B t size' u k ys) (ht : t ≠ e) : w'.ownsRow B t size' u k ys := by
  refine hx.kept g ?_
  rcases hx.2 with ⟨rfl, _⟩ | ⟨g, cap, cur, rfl, _, hg, _⟩
  · exact Or.inl rfl
  · refine Or.inr fun e => ?_
    exact ownBlock_ne h (x := g) (m := cur.size) (f := fun i => cur[i]?.getD default) (t := t) ⟨cur, hg, rfl, fun i hi => by simp [hi]⟩ ht e

theorem sl_ext (er : Nat → Nat) (k r n : Nat) : (List.range (k + 1)).map (sl (ext er k r) n) = (List.range k).map (sl er n) ++ [.slice (some ⟨r, 0, none⟩) n n] := by
  rw [List.range_succ, List.map_append]
  congr 1
  · apply List.map_congr_left
    intro u hu
    have := List.mem_range.1 hu
    simp [sl, ext, show u ≠ k by omega]
  · simp [sl, ext]

/-- A row of edges more. -/
theorem Mid.edge {v' : Value} {r : Nat} (h : Mid w B W a b n s3 s4 ke kl ev lv er lr) (hr : w.rowIs r 4 n (fun _ => .bool false)) (hne : ∀ u, u < ke → er u ≠ r) (hB : B ≤ r)
    (ho : w'.ownsRow B 39 1 v' (ke + 1) ((List.range ke).map (sl er n) ++ [.slice (some ⟨r, 0, none⟩) n n])) (g : w.grownBy w' ev.ownBlock) :
    Mid w' B W a b n s3 s4 (ke + 1) kl v' lv (ext er ke r) lr := by
  refine ⟨rowIs_grown h.oe g h.rW (by decide), rowIs_grown h.oe g h.ra (by decide), rowIs_grown h.oe g h.rb (by decide), h.ab, by rw [sl_ext]; exact ho, owns_grown h.oe g h.ol (by decide), ?_, fun u hu => rowIs_grown h.oe g (h.rl u hu) (by decide), ?_, h.il, h.bW, h.ba, h.bb, ?_, h.bl⟩
  · intro u hu
    by_cases e : u = ke
    · simp only [ext, e, if_pos]; exact rowIs_grown h.oe g hr (by decide)
    · simp only [ext, if_neg e]; exact rowIs_grown h.oe g (h.re u (by omega)) (by decide)
  · intro u v hu hv
    simp only [ext]
    by_cases e : u = ke <;> by_cases f : v = ke
    · intros; omega
    · rw [if_pos e, if_neg f]; intro q; exact absurd q.symm (hne v (by omega))
    · rw [if_neg e, if_pos f]; intro q; exact absurd q (hne u (by omega))
    · rw [if_neg e, if_neg f]; exact h.ie u v (by omega) (by omega)
  · intro u hu
    by_cases e : u = ke
    · simp only [ext, e, if_pos]; exact hB
    · simp only [ext, if_neg e]; exact h.be u (by omega)

/-- A row of levels more. -/
theorem Mid.level {v' : Value} {r : Nat} (h : Mid w B W a b n s3 s4 ke kl ev lv er lr) (hr : w.rowIs r 3 n (fun _ => .int .i64 0)) (hne : ∀ u, u < kl → lr u ≠ r) (hB : B ≤ r)
    (ho : w'.ownsRow B 40 1 v' (kl + 1) ((List.range kl).map (sl lr n) ++ [.slice (some ⟨r, 0, none⟩) n n])) (g : w.grownBy w' lv.ownBlock) :
    Mid w' B W a b n s3 s4 ke (kl + 1) ev v' er (ext lr kl r) := by
  refine ⟨rowIs_grown h.ol g h.rW (by decide), rowIs_grown h.ol g h.ra (by decide), rowIs_grown h.ol g h.rb (by decide), h.ab, owns_grown h.ol g h.oe (by decide), by rw [sl_ext]; exact ho, fun u hu => rowIs_grown h.ol g (h.re u hu) (by decide), ?_, h.ie, ?_, h.bW, h.ba, h.bb, h.be, ?_⟩
  · intro u hu
    by_cases e : u = kl
    · simp only [ext, e, if_pos]; exact rowIs_grown h.ol g hr (by decide)
    · simp only [ext, if_neg e]; exact rowIs_grown h.ol g (h.rl u (by omega)) (by decide)
  · intro u v hu hv
    simp only [ext]
    by_cases e : u = kl <;> by_cases f : v = kl
    · intros; omega
    · rw [if_pos e, if_neg f]; intro q; exact absurd q.symm (hne v (by omega))
    · rw [if_neg e, if_pos f]; intro q; exact absurd q (hne u (by omega))
    · rw [if_neg e, if_neg f]; exact h.il u v (by omega) (by omega)
  · intro u hu
    by_cases e : u = kl
    · simp only [ext, e, if_pos]; exact hB
    · simp only [ext, if_neg e]; exact h.bl u (by omega)

theorem owns_set {e : TypeId} {size : Nat} {v : Value} {m : Nat} {xs : List Value} (h : w.ownsRow B e size v m xs) {x k t : Nat} {f : Nat → Value} (hx : w.rowIs x t k f) (ht : t ≠ e) (o : Nat) (u : Value) : (w.setCell ⟨x, o, none⟩ u).ownsRow B e size v m xs := by
  refine h.kept (w' := w.setCell ⟨x, o, none⟩ u) (row := some x) ⟨rfl, rfl, rfl, by simp [World.setCell], fun i hi hne => Below.heap_setCell _ _ _ _ (by intro q; subst q; exact hne rfl)⟩ ?_
  exact Or.inr fun q => ownBlock_ne h hx ht q.symm

/-- The two stores into the law's world. -/
theorem Mid.store (h : Mid w B W a b n s3 s4 ke kl ev lv er lr) (v3 v4 : Value) : Mid ((w.setCell ⟨W, 3, none⟩ v3).setCell ⟨W, 4, none⟩ v4) B W a b n v3 v4 ke kl ev lv er lr := by
  have hW := (h.rW.set 3 v3)
  have nW : ∀ {x t m f}, w.rowIs x t m f → t ≠ 31 → x ≠ W := fun hx ht => rowIs_ne hx h.rW ht
  have two : ∀ {x t m f}, w.rowIs x t m f → t ≠ 31 → ((w.setCell ⟨W, 3, none⟩ v3).setCell ⟨W, 4, none⟩ v4).rowIs x t m f := fun hx ht => (hx.setOther (nW hx ht) _).setOther (nW hx ht) _
  refine ⟨((h.rW.set 3 v3).set 4 v4).congr ?_, two h.ra (by decide), two h.rb (by decide), h.ab, owns_set (owns_set h.oe h.rW (by decide) 3 v3) hW (by decide) 4 v4, owns_set (owns_set h.ol h.rW (by decide) 3 v3) hW (by decide) 4 v4,
    fun u hu => two (h.re u hu) (by decide), fun u hu => two (h.rl u hu) (by decide), h.ie, h.il, h.bW, h.ba, h.bb, h.be, h.bl⟩
  intro i hi
  simp only [wf]
  by_cases e4 : i = 4
  · subst e4; simp
  · by_cases e3 : i = 3
    · subst e3; simp
    · simp [e3, e4]
end
end Go.Proofs.Ytfgahilgjpjncab
