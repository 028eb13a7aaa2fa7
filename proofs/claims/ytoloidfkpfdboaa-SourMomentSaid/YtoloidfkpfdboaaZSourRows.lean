/- Rows of texts, of numbers and of rows of bytes: as they are read, cloned, appended to. -/
import Derived.Test.YtoloidfkpfdboaaZ12
import Derived.Test.YtoloidfkpfdboaaZInts
import Derived.Test.YtoloidfkpfdboaaZRowsB
namespace Go.Proofs.Ytoloidfkpfdboaa
set_option maxRecDepth 100000
open Go.ChangeShapes Go.WideShapes Go.ChangeAt Go.RowKit Go.ChangeMaps

/-- A slice of texts that reads as a list. -/
def SrT (w : World) (v : Value) (L : List (List Nat)) : Prop :=
  ∃ A c, v = .slice A L.length c ∧ L.length ≤ c ∧ (0 < L.length → ∃ b off, A = some ⟨b, off, none⟩ ∧ ∀ k, k < L.length → w.cell? ⟨b, off + k, none⟩ = some (.string (str (L.getD k []))))
/-- A slice of numbers that reads as a list. -/
def SrI (w : World) (v : Value) (L : List Nat) : Prop :=
  ∃ A c, v = .slice A L.length c ∧ L.length ≤ c ∧ (0 < L.length → ∃ b off, A = some ⟨b, off, none⟩ ∧ ∀ k, k < L.length → w.cell? ⟨b, off + k, none⟩ = some (.int .i64 ((L.getD k 0 : Nat) : Int)))
theorem srT_none (w : World) : SrT w (.slice none 0 0) [] := ⟨none, 0, rfl, Nat.le_refl _, fun h => absurd h (by simp)⟩
theorem srI_none (w : World) : SrI w (.slice none 0 0) [] := ⟨none, 0, rfl, Nat.le_refl _, fun h => absurd h (by simp)⟩
theorem SrT.at {w : World} {A : Option Addr} {n c : Nat} {L : List (List Nat)} (h : SrT w (.slice A n c) L) {k : Nat} (hk : k < n) : ∃ b off, A = some ⟨b, off, none⟩ ∧ w.cell? ⟨b, off + k, none⟩ = some (.string (str (L.getD k []))) := by
  obtain ⟨A', c', e, _, hx⟩ := h
  injection e with e1 e2 e3
  subst e1 e2
  obtain ⟨b, off, rfl, hc⟩ := hx (by omega)
  exact ⟨b, off, rfl, hc k hk⟩
theorem SrI.at {w : World} {A : Option Addr} {n c : Nat} {L : List Nat} (h : SrI w (.slice A n c) L) {k : Nat} (hk : k < n) : ∃ b off, A = some ⟨b, off, none⟩ ∧ w.cell? ⟨b, off + k, none⟩ = some (.int .i64 ((L.getD k 0 : Nat) : Int)) := by
  obtain ⟨A', c', e, _, hx⟩ := h
  injection e with e1 e2 e3
  subst e1 e2
  obtain ⟨b, off, rfl, hc⟩ := hx (by omega)
  exact ⟨b, off, rfl, hc k hk⟩
theorem SrT.under {w w' : World} {v : Value} {L : List (List Nat)} (h : SrT w v L) (hb : Below w.heap.size w w') : SrT w' v L := by
  obtain ⟨A, c, rfl, h3, hx⟩ := h
  refine ⟨A, c, rfl, h3, fun h0 => ?_⟩
  obtain ⟨b, off, rfl, hc⟩ := hx h0
  exact ⟨b, off, rfl, fun i hi => cell_later hb (hc i hi)⟩
theorem SrI.under {w w' : World} {v : Value} {L : List Nat} (h : SrI w v L) (hb : Below w.heap.size w w') : SrI w' v L := by
  obtain ⟨A, c, rfl, h3, hx⟩ := h
  refine ⟨A, c, rfl, h3, fun h0 => ?_⟩
  obtain ⟨b, off, rfl, hc⟩ := hx h0
  exact ⟨b, off, rfl, fun i hi => cell_later hb (hc i hi)⟩
theorem SrI.heap {w W : World} {v : Value} {L : List Nat} (h : SrI w v L) (e : W.heap = w.heap) : SrI W v L := by
  obtain ⟨A, c, rfl, h3, hx⟩ := h
  refine ⟨A, c, rfl, h3, fun h0 => ?_⟩
  obtain ⟨b, off, rfl, hc⟩ := hx h0
  refine ⟨b, off, rfl, fun i hi => ?_⟩
  rw [← hc i hi]
  unfold World.cell?
  rw [e]
theorem OwnT.srT {w : World} {base : Nat} {v : Value} {L : List (List Nat)} (h : OwnT w base v L) : SrT w v L := by
  have h' := h
  rcases h.2 with ⟨rfl, h0⟩ | ⟨g, cap, cur, rfl, hb, hg, hn, hm, hs, ht⟩
  · exact ⟨none, 0, by rw [h0], by omega, fun h => by omega⟩
  · refine ⟨_, cap, rfl, hn, fun _ => ⟨g, 0, rfl, fun k hk => ?_⟩⟩
    rw [Nat.zero_add]
    exact h'.cell hk
theorem OwnI.srI {w : World} {base : Nat} {v : Value} {L : List Nat} (h : OwnI w base v L) : SrI w v L := by
  have h' := h
  rcases h.2 with ⟨rfl, h0⟩ | ⟨g, cap, cur, rfl, hb, hg, hn, hm, hs, ht⟩
  · exact ⟨none, 0, by rw [h0], by omega, fun h => by omega⟩
  · refine ⟨_, cap, rfl, hn, fun _ => ⟨g, 0, rfl, fun k hk => ?_⟩⟩
    obtain ⟨g', e, hc⟩ := OwnI.cell h' (k := k) hk
    injection e with e
    injection e with e
    subst e
    exact hc
/-- Rows that are written out. -/
theorem srT_lit (w : World) (g : Nat) (hg : g = w.heap.size) (L : List (List Nat)) (n : Nat) (hn : L.length = n) (e : TypeId) (m : Nat × Nat) : SrT (w.alloc (.cells (rowT L).toArray e m)) (.slice (some ⟨g, 0, none⟩) n n) L := by
  subst hg hn
  refine ⟨_, L.length, rfl, Nat.le_refl _, fun _ => ⟨w.heap.size, 0, rfl, fun k hk => ?_⟩⟩
  have e1 : (w.alloc (.cells (rowT L).toArray e m)).heap[w.heap.size]? = some (.cells (rowT L).toArray e m) := heap_alloc_new w _
  unfold World.cell?
  rw [Nat.zero_add, e1]
  simp [rowT, hk]
theorem srI_lit (w : World) (g : Nat) (hg : g = w.heap.size) (L : List Nat) (n : Nat) (hn : L.length = n) (e : TypeId) (m : Nat × Nat) : SrI (w.alloc (.cells (rowI L).toArray e m)) (.slice (some ⟨g, 0, none⟩) n n) L := by
  subst hg hn
  refine ⟨_, L.length, rfl, Nat.le_refl _, fun _ => ⟨w.heap.size, 0, rfl, fun k hk => ?_⟩⟩
  have e1 : (w.alloc (.cells (rowI L).toArray e m)).heap[w.heap.size]? = some (.cells (rowI L).toArray e m) := heap_alloc_new w _
  unfold World.cell?
  rw [Nat.zero_add, e1]
  simp [rowI, hk]

theorem run_append_srT {w : World} {base : Nat} {T ty : TypeId} (hT : Try.prog.underlying T = some (.slice 9)) {v vx : Value} {l m : List (List Nat)} (hown : OwnT w base v l) (hx : SrT w vx m) (hlen : l.length + m.length ≤ 1099511627776) (hbase : base ≤ w.heap.size) :
    ∃ v' w', (Builtin.append_ #[T, T] ty #[v, vx]).run Try.prog w = .ok v' w' ∧ OwnT w' base v' (l ++ m) ∧ w.grownBy w' v.ownBlock ∧ (v'.ownBlock = v.ownBlock ∨ v'.ownBlock = some w.heap.size) := by
  obtain ⟨i, hi, hz0, hz1, hz2⟩ := info_parts infoText
  obtain ⟨A, c, rfl, hc, h0⟩ := hx
  rcases A with _ | ad
  · rcases Nat.eq_zero_or_pos m.length with hz | hz
    · have : m = [] := List.eq_nil_of_length_eq_zero hz
      subst this
      refine ⟨v, w, run_append_none hT hi hown, by simpa using hown, World.grownBy.refl w _, .inl rfl⟩
    · obtain ⟨b, off, e, _⟩ := h0 hz
      cases e
  · obtain ⟨v', w', hr, ho, hg, _, hat⟩ := run_append_own_at (P := Try.prog) w base T ty 9 i (.string ⟨#[]⟩) 1 16 hT hi hz0 hz1 hz2 rfl (by decide) v l.length (rowT l) hown ad m.length c (rowT m) (by simp [rowT])
      (fun j u hu => by
        unfold rowT at hu
        rw [List.getElem?_map, Option.map_eq_some_iff] at hu
        obtain ⟨y, hy, rfl⟩ := hu
        obtain ⟨hj, rfl⟩ := List.getElem?_eq_some_iff.1 hy
        obtain ⟨b, off, e, hcell⟩ := h0 (by omega)
        injection e with e
        subst e
        rw [add_plain, hcell j hj, List.getD_eq_getElem?_getD, List.getElem?_eq_getElem hj]
        rfl) (fun u hu => by
        unfold rowT at hu
        obtain ⟨y, _, rfl⟩ := List.mem_map.1 hu
        rfl) (by unfold maxLen; omega) (by omega) hbase
    exact ⟨v', w', hr, by unfold OwnT; rw [List.length_append, show rowT (l ++ m) = rowT l ++ rowT m from List.map_append]; exact ho, hg, hat⟩
theorem run_append_srI {w : World} {base : Nat} {T ty : TypeId} (hT : Try.prog.underlying T = some (.slice 3)) {v vx : Value} {l m : List Nat} (hown : OwnI w base v l) (hx : SrI w vx m) (hlen : l.length + m.length ≤ 1099511627776) (hbase : base ≤ w.heap.size) :
    ∃ v' w', (Builtin.append_ #[T, T] ty #[v, vx]).run Try.prog w = .ok v' w' ∧ OwnI w' base v' (l ++ m) ∧ w.grownBy w' v.ownBlock ∧ (v'.ownBlock = v.ownBlock ∨ v'.ownBlock = some w.heap.size) := by
  obtain ⟨i, hi, hz0, hz1, hz2⟩ := info_parts infoInt
  obtain ⟨A, c, rfl, hc, h0⟩ := hx
  rcases A with _ | ad
  · rcases Nat.eq_zero_or_pos m.length with hz | hz
    · have : m = [] := List.eq_nil_of_length_eq_zero hz
      subst this
      refine ⟨v, w, run_append_none hT hi hown, by simpa using hown, World.grownBy.refl w _, .inl rfl⟩
    · obtain ⟨b, off, e, _⟩ := h0 hz
      cases e
  · obtain ⟨v', w', hr, ho, hg, _, hat⟩ := run_append_own_at (P := Try.prog) w base T ty 3 i (.int .i64 0) 1 8 hT hi hz0 hz1 hz2 rfl (by decide) v l.length (rowI l) hown ad m.length c (rowI m) (by simp [rowI])
      (fun j u hu => by
        unfold rowI at hu
        rw [List.getElem?_map, Option.map_eq_some_iff] at hu
        obtain ⟨y, hy, rfl⟩ := hu
        obtain ⟨hj, rfl⟩ := List.getElem?_eq_some_iff.1 hy
        obtain ⟨b, off, e, hcell⟩ := h0 (by omega)
        injection e with e
        subst e
        rw [add_plain, hcell j hj, List.getD_eq_getElem?_getD, List.getElem?_eq_getElem hj]
        rfl) (fun u hu => by
        unfold rowI at hu
        obtain ⟨y, _, rfl⟩ := List.mem_map.1 hu
        rfl) (by unfold maxLen; omega) (by omega) hbase
    exact ⟨v', w', hr, by unfold OwnI; rw [List.length_append, show rowI (l ++ m) = rowI l ++ rowI m from List.map_append]; exact ho, hg, hat⟩
/-- An append whose run is known. -/
theorem wpList_append_eq {w : World} {ops : Array Oper} {rest : List Oper} {o : Oper} {a : Act} {Q : Exit → Act → World → Prop} (hgd : o.guard = none) (s x : Operand) (T : TypeId)
    (ho : o.op = .call { callee := .builtin .append, args := #[s, x], argTypes := #[T, T] }) (v vx : Value) (hs : a.eval s = v) (hx : a.eval x = vx) {v' : Value} {w' : World} (hr : (Builtin.append_ #[T, T] o.type #[v, vx]).run Try.prog w = .ok v' w')
    (h : wpList Try.prog ops Q rest (a.put o.dst v') w') : wpList Try.prog ops Q (o :: rest) a w := by
  refine wpList_plain hgd fun K hK => ?_
  unfold Oper.wp execOp
  simp only [ho, resolve, invoke, builtin, Sem.run_bind, Sem.run_pure, Result.andThen_ok, List.map_toArray, List.map_cons, List.map_nil, hs, hx, hr]
  exact hK _ _ h

/-- Rows of bytes in a row, each by its place. -/
def OwnRx (w : World) (base : Nat) (v : Value) (us : List Value) (L : List (List Nat)) : Prop :=
  us.length = L.length ∧ w.ownsRow base 25 1 v L.length us ∧ (∀ u ∈ us, u.oneCell' = true) ∧ ∀ i, i < L.length → Own w base (us.getD i undef) (L.getD i [])
theorem ownRx_none (w : World) (base : Nat) : OwnRx w base (.slice none 0 0) [] [] := ⟨rfl, World.ownsRow_nil w base _ 1, by simp, fun i hi => absurd hi (by simp)⟩
theorem OwnRx.ownR {w : World} {base : Nat} {v : Value} {us : List Value} {L : List (List Nat)} (h : OwnRx w base v us L) : OwnR w base v L := ⟨us, h⟩
theorem OwnRx.blocks {w w' : World} {base : Nat} {v : Value} {us : List Value} {L : List (List Nat)} (h : OwnRx w base v us L) (h1 : ∀ k, v.ownBlock = some k → w'.heap[k]? = w.heap[k]?) (h2 : ∀ u ∈ us, ∀ k, u.ownBlock = some k → w'.heap[k]? = w.heap[k]?) : OwnRx w' base v us L := by
  obtain ⟨a, b, c, d⟩ := h
  refine ⟨a, ownsRow_block b h1, c, fun i hi => ⟨ownsRow_block (d i hi).1 (h2 _ ?_), (d i hi).2⟩⟩
  rw [List.getD_eq_getElem?_getD, List.getElem?_eq_getElem (by omega)]
  exact List.getElem_mem _
theorem OwnRx.under {w w' : World} {base : Nat} {v : Value} {us : List Value} {L : List (List Nat)} (h : OwnRx w base v us L) (hb : Below w.heap.size w w') : OwnRx w' base v us L := by
  refine h.blocks (fun k hk => hb.block k (World.ownsRow.lt h.2.1 k hk).2) fun u hu k hk => ?_
  obtain ⟨i, hi, rfl⟩ := List.getElem_of_mem hu
  have := h.2.2.2 i (by rw [← h.1]; exact hi)
  rw [List.getD_eq_getElem?_getD, List.getElem?_eq_getElem hi] at this
  exact hb.block k (this.lt k hk).2
theorem run_append_rowx {w : World} {base B : Nat} {ty : TypeId} {v u : Value} {us : List Value} {L : List (List Nat)} {m : List Nat} (hown : OwnRx w base v us L) (hu : Own w base u m) (hB : w.cell? ⟨B, 0, none⟩ = some u) (hlen : L.length ≤ 1099511627776) (hbase : base ≤ w.heap.size) :
    ∃ v' w', (Builtin.append_ #[33, 33] ty #[v, .slice (some ⟨B, 0, none⟩) 1 1]).run Try.prog w = .ok v' w' ∧ OwnRx w' base v' (us ++ [u]) (L ++ [m]) ∧ w.grownBy w' v.ownBlock ∧ (v'.ownBlock = v.ownBlock ∨ v'.ownBlock = some w.heap.size) := by
  obtain ⟨i, hi, hz0, hz1, hz2⟩ := info_parts infoBytes
  obtain ⟨h1, h2, h4, h3⟩ := hown
  obtain ⟨v', w', hr, ho, hg, _, hat⟩ := run_append_own_at (P := Try.prog) w base 33 ty 25 i (.slice none 0 0) 1 24 Try.underlying33 hi hz0 hz1 hz2 rfl (by decide) v L.length us h2 ⟨B, 0, none⟩ 1 1 [u] rfl
    (fun j x hx => by
      have hj : j = 0 := by
        rcases j with _ | j
        · rfl
        · simp at hx
      subst hj
      simp at hx
      subst hx
      rw [add_plain]
      exact hB) (fun x hx => by simp at hx; subst hx; exact hu.oneCell) (by unfold maxLen; omega) (by omega) hbase
  refine ⟨v', w', hr, ⟨by simp [h1], by simpa using ho, fun x hx => (List.mem_append.1 hx).elim (h4 x) (fun e => by simp at e; subst e; exact hu.oneCell), fun j hj => ?_⟩, hg, hat⟩
  rcases Nat.lt_or_ge j L.length with hlt | hge
  · rw [List.getD_eq_getElem?_getD, List.getD_eq_getElem?_getD, List.getElem?_append_left (by omega), List.getElem?_append_left hlt, ← List.getD_eq_getElem?_getD, ← List.getD_eq_getElem?_getD]
    exact (h3 j hlt).grown hg (own_apartR (h3 j hlt) h2)
  · have hj' : j = L.length := by simp at hj; omega
    subst hj'
    have e1 : (us ++ [u]).getD L.length undef = u := by rw [← h1]; simp
    have e2 : (L ++ [m]).getD L.length [] = m := by simp
    rw [e1, e2]
    exact hu.grown hg (own_apartR hu h2)
/-- Rows of different things do not share a block. -/
theorem rows_not_same {w : World} {b1 b2 n1 n2 s1 s2 : Nat} {e1 e2 : TypeId} {v u : Value} {us1 us2 : List Value} (h1 : w.ownsRow b1 e1 s1 v n1 us1) (h2 : w.ownsRow b2 e2 s2 u n2 us2) (hne : e1 ≠ e2) : ∀ k, v.ownBlock = some k → u.ownBlock ≠ some k := by
  intro k hv hu
  rcases h1.2 with ⟨rfl, _⟩ | ⟨g, cap, cur, rfl, _, hg, _⟩
  · cases hv
  · rcases h2.2 with ⟨rfl, _⟩ | ⟨g', cap', cur', rfl, _, hg', _⟩
    · cases hu
    · simp [Value.ownBlock] at hv hu
      subst hv
      subst hu
      rw [hg] at hg'
      injection hg' with e
      injection e with _ e
      exact hne e
/-- A row does not lie where a block of other things does. -/
theorem row_not_blk {w : World} {base g n s : Nat} {e t : TypeId} {v : Value} {us : List Value} {cs : Array Value} (h : w.ownsRow base e s v n us) (hb : Blk w g t cs) (hne : e ≠ t) : v.ownBlock ≠ some g := by
  intro hv
  rcases h.2 with ⟨rfl, _⟩ | ⟨g', cap, cur, rfl, _, hg, _⟩
  · cases hv
  · simp [Value.ownBlock] at hv
    subst hv
    rw [show w.heap[g']? = some (.cells cs t (0, 0)) from hb] at hg
    injection hg with hg
    injection hg with _ hg
    exact hne hg.symm
theorem ownT_empty (w : World) (base : Nat) (hb : base ≤ w.heap.size) : OwnT (w.alloc (.cells #[] 9)) base (.slice (some ⟨w.heap.size, 0, none⟩) 0 0) [] := World.ownsRow_made w #[] 0 hb (Nat.zero_le _) rfl
theorem ownI_empty' (w : World) (base : Nat) (hb : base ≤ w.heap.size) : OwnI (w.alloc (.cells #[] 3)) base (.slice (some ⟨w.heap.size, 0, none⟩) 0 0) [] := World.ownsRow_made w #[] 0 hb (Nat.zero_le _) rfl
theorem srun_eql_slice_nil {P : Program} (w : World) {t e : TypeId} (A : Option Addr) (n c : Nat) (ht : P.underlying t = some (.slice e)) :
    (binOp .eql t (.slice A n c) (.slice none 0 0)).run P w = .ok (.bool A.isNone) w := by
  have h : ∀ d : Nat, (Op.equalIn (d + 1) t (.slice A n c) (.slice none 0 0)).run P w = .ok A.isNone w := fun d => by
    cases A <;> simp [Op.equalIn, run_underlying ht]
  simp only [binOp]
  simp [Op.equal, Op.maxDepth, h 9999]
theorem srclone_texts {w : World} {v : Value} {l : List (List Nat)} (h : SrT w v l) (hlen : l.length ≤ 1000000) :
    Calls Try.prog 24 #[v] w fun e w' => ∃ v', e = .returned v' ∧ OwnT w' w.heap.size v' l ∧ Below w.heap.size w w' := by
  have H := Lib.hid h
  obtain ⟨A, c, rfl, hc, h0⟩ := h
  obtain ⟨n, hn⟩ : ∃ n, l.length = n := ⟨_, rfl⟩
  rw [hn] at H hlen ⊢
  rcases A with _ | ad
  · have hz : l = [] := by
      rcases l with _ | ⟨y, l⟩
      · rfl
      · obtain ⟨b, off, e, _⟩ := h0 (by simp)
        cases e
    subst hz
    subst hn
    have heq := fun w => srun_eql_slice_nil (P := Try.prog) w (t := 24) none 0 c Try.underlying24
    clear h0
    go_enter Try.func24, Try.ntmps24
    go_wp2
    go_ret
    exact ⟨_, rfl, ownT_none _ _, Below.refl _ _⟩
  · have heq := fun w => srun_eql_slice_nil (P := Try.prog) w (t := 24) (some ad) n c Try.underlying24
    obtain ⟨v6, w6, hr6, ho6, hg6, _⟩ := run_append_srT (ty := 24) Try.underlying24 (ownT_empty w w.heap.size (Nat.le_refl _)) (H.out.under ((Below.refl _ _).alloc (Nat.le_refl _) _)) (by simp; omega) (by simp)
    have HO6 : Hid (OwnT w6 w.heap.size v6 l) := Lib.hid (by simpa using ho6)
    have HB6 : Hid (Below w.heap.size w w6) := Lib.hid (((Below.refl _ _).alloc (Nat.le_refl _) _).trans ((Below.refl _ _).grown hg6 (by simp) fun k hk => by
      injection hk with hk
      change w.heap.size = k at hk
      omega))
    have HR6 := Lib.hid hr6
    clear h0 hn hlen hc ho6 hg6 hr6
    go_enter Try.func24, Try.ntmps24
    go_wp2_with (at_builtin; refine wpList_append_eq rfl _ _ 24 rfl _ _ rfl rfl HR6.out ?_)
    go_ret
    exact ⟨_, rfl, HO6.out, HB6.out⟩
theorem srclone_ints {w : World} {v : Value} {l : List Nat} (h : SrI w v l) (hlen : l.length ≤ 1000000) :
    Calls Try.prog 26 #[v] w fun e w' => ∃ v', e = .returned v' ∧ OwnI w' w.heap.size v' l ∧ Below w.heap.size w w' := by
  have H := Lib.hid h
  obtain ⟨A, c, rfl, hc, h0⟩ := h
  obtain ⟨n, hn⟩ : ∃ n, l.length = n := ⟨_, rfl⟩
  rw [hn] at H hlen ⊢
  rcases A with _ | ad
  · have hz : l = [] := by
      rcases l with _ | ⟨y, l⟩
      · rfl
      · obtain ⟨b, off, e, _⟩ := h0 (by simp)
        cases e
    subst hz
    subst hn
    have heq := fun w => srun_eql_slice_nil (P := Try.prog) w (t := 37) none 0 c Try.underlying37
    clear h0
    go_enter Try.func26, Try.ntmps26
    go_wp2
    go_ret
    exact ⟨_, rfl, ownI_none _ _, Below.refl _ _⟩
  · have heq := fun w => srun_eql_slice_nil (P := Try.prog) w (t := 37) (some ad) n c Try.underlying37
    obtain ⟨v6, w6, hr6, ho6, hg6, _⟩ := run_append_srI (ty := 37) Try.underlying37 (ownI_empty' w w.heap.size (Nat.le_refl _)) (H.out.under ((Below.refl _ _).alloc (Nat.le_refl _) _)) (by simp; omega) (by simp)
    have HO6 : Hid (OwnI w6 w.heap.size v6 l) := Lib.hid (by simpa using ho6)
    have HB6 : Hid (Below w.heap.size w w6) := Lib.hid (((Below.refl _ _).alloc (Nat.le_refl _) _).trans ((Below.refl _ _).grown hg6 (by simp) fun k hk => by
      injection hk with hk
      change w.heap.size = k at hk
      omega))
    have HR6 := Lib.hid hr6
    clear h0 hn hlen hc ho6 hg6 hr6
    go_enter Try.func26, Try.ntmps26
    go_wp2_with (at_builtin; refine wpList_append_eq rfl _ _ 37 rfl _ _ rfl rfl HR6.out ?_)
    go_ret
    exact ⟨_, rfl, HO6.out, HB6.out⟩
end Go.Proofs.Ytoloidfkpfdboaa
