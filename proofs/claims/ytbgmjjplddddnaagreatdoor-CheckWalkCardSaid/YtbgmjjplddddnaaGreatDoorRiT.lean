import Derived.Test.YtbgmjjplddddnaaGreatDoorRiQ
set_option linter.unusedSimpArgs false
namespace Go.Lift
open Go.RowKit
theorem BZ {C:List Nat} {i:Nat}:C.any (Nat.beq i)=true↔i∈C:=by
 rw [List.any_eq_true]
 constructor
 ·rintro ⟨x,h1,h2⟩
  have:=Aa h2
  subst this
  exact h1
 ·intro h
  exact ⟨i,h,by simp⟩
structure Ag (S C:List Nat) (st st':St):Prop where
 s:∀ i∈S,lk i st.s=lk i st'.s
 l:∀ i∈C,lk i st.l=lk i st'.l
 b:st.b=st'.b
 n:∀ i∈S,∀ rv,lk i st.s=some rv->Fe C rv=true
 c:∀ i∈C,∀ ty con,lk i st.l=some (.var ty con)->Fe C con=true
 y:∀ i∈C,∀ con q,lk i st.l=some (.lp con q)->Fe C con=true
section
variable {α:Type} {S C:List Nat} {st st':St} {E:Bn}
theorem CZ (h:Ag S C st st') (ty:Option Ty) (x:Operand) (hx:∀ i,x=.tmp i->i∈S):Bf ty x st.s=Bf ty x st'.s:=by
 unfold Bf
 cases x with
 | tmp i=>simp only [h.s i (hx i rfl)]
 | _=>rfl
theorem EN (h:Ag S C st st') (ty:Option Ty) (x:Operand) (hx:∀ i,x=.tmp i->i∈S):Fe C (Bf ty x st.s)=true:=by
 cases x with
 | tmp i=>
  simp only [Bf]
  cases hl:lk i st.s with
  | none=>rfl
  | some rv=>exact h.n i (hx i rfl) rv hl
 | const v=>
  simp only [Bf]
  split
  ·cases FC v <;> rfl
  ·split <;> rfl
  ·rfl
 | func f=>rfl
 | global g=>simp only [Bf];split <;> rfl
theorem SQ {k k':Ty->RV->Option α} (hk:∀ t rv,Fe C rv=true->k t rv=k' t rv):∀ (t:Ty) (rv:RV) (p:List Step),Fe C rv=true->DC k t rv p=DC k' t rv p:=by
 intro t rv p
 fun_induction DC k t rv p with
 | case1 t rv=>intro h;simpa only [DC] using hk t rv h
 | case2 a b x y p ih=>
  intro h
  simp only [Fe,AP] at h
  simpa only [DC] using ih h.1
 | case3 a b x y p n ih=>
  intro h
  simp only [Fe,AP] at h
  simpa only [DC] using ih h.2
 | case4 t v s p=>
  intro _
  simp only [DC]
  congr 1
  funext u
  exact hk _ _ rfl
 | case5 t rv p h1 h2 h3 h4=>
  intro _
  unfold DC
  split
  ·exact (h1 rfl).elim
  ·exact (h3 _ _ _ _ _ rfl rfl rfl).elim
  ·exact (h4 _ _ _ _ _ _ rfl rfl rfl).elim
  ·exact (h2 _ _ _ rfl rfl).elim
  ·rfl
theorem M6 {pk Wz:RV->(TV->Option α)->Option α} (hpk:∀ rv k,Fe C rv=true->pk rv k=Wz rv k):∀ (rv:RV) (t:Ty) (k:t.den->Option α),Fe C rv=true->Cr pk rv t k=Cr Wz rv t k:=by
 intro rv
 induction rv with
 | pair x y QN ihy=>
  intro t k h
  simp only [Fe,AP] at h
  cases t with
  | pair a b=>
   simp only [Cr]
   rw [QN a _ h.1]
   congr 1
   funext z
   exact ihy b _ h.2
  | _=>rfl
 | val v=>intro t k h;rfl
 | unit=>intro t k h;rfl
 | any=>intro t k h;rfl
 | _=>intro t k h;exact hpk _ _ h
theorem Ea (h:Ag S C st st'):∀ (n:Nat) (rv:RV) (k:TV->Option α),Fe C rv=true->Bg st.l n rv k=Bg st'.l n rv k
 | 0,_,_,_=>rfl
 | n+1,rv,k,hr=>by
  have ih:∀ rv (k:TV->Option α),Fe C rv=true->Bg st.l n rv k=Bg st'.l n rv k:=fun rv k hr=>Ea h n rv k hr
  cases rv with
  | row id=>simp only [Bg,h.l id (BZ.1 hr)]
  | sub id lo hi=>simp only [Bg,h.l id (BZ.1 hr)]
  | loc id p=>
   simp only [Bg]
   rw [← h.l id (BZ.1 hr)]
   cases hl:lk id st.l with
   | none=>rfl
   | some ob=>
    cases ob with
    | var ty con=>exact SQ (fun t rv Ut=>M6 ih rv t _ Ut) ty con p (h.c id (BZ.1 hr) ty con hl)
    | row t xs=>rfl
    | mp kt vt es=>rfl
    | lp c q=>rfl
  | agg t r=>exact M6 ih r t _ hr
  | _=>rfl
theorem RY (h:Ag S C st st'):∀ (is:List Nat) (k:List (Nat×AV)->Option α),(∀ i∈is,i∈S)->Ux st.l st.s is k=Ux st'.l st'.s is k
 | [],_,_=>rfl
 | i::r,k,hi=>by
  simp only [Ux]
  rw [← h.s i (hi i (by simp))]
  cases hl:lk i st.s with
  | none=>rfl
  | some rv=>
   simp only
   rw [Ea h 6 rv _ (h.n i (hi i (by simp)) rv hl)]
   congr 1
   funext v
   exact RY h r _ fun j hj=>hi j (by simp [hj])
theorem Kn (h:Ag S C st st') (is:List Nat) (hi:∀ i∈is,i∈S):Dv st.s is=Dv st'.s is:=by
 unfold Dv
 induction is with
 | nil=>rfl
 | cons i r ih=>
  simp only [List.all_cons]
  rw [h.s i (hi i (by simp)),ih fun j hj=>hi j (by simp [hj])]
theorem Ub (h:Ag S C st st') {o:Oper} (hS:∀ i∈slotsOf o,i∈S) (k:RV->Option Ob->Option α):FZ E o st k=FZ E o st' k:=by
 unfold FZ
 rw [RY h _ _ hS,Kn h _ hS]
theorem P8 (h:Ag S C st st'):∀ (t:Ty) (i:Nat) (ps:List (Nat×Operand)),(∀ i,Operand.tmp i∈ps.map (·.2)->i∈S)->Ce st.s t i ps=Ce st'.s t i ps:=by
 intro t
 induction t with
 | pair a b iha ihb=>
  intro i ps hp
  cases ps with
  | nil=>simp only [Ce];rw [ihb (i+1) [] (by simp)]
  | cons p r=>
   obtain ⟨j,x⟩:=p
   unfold Ce
   rw [CZ h (some a) x (fun i hi=>hp i (by simp [hi])),ihb (i+1) r (fun i hi=>hp i (by simp at hi ⊢;exact .inr hi)),ihb (i+1) ((j,x)::r) hp]
 | _=>intro i ps hp;cases ps <;> rfl
theorem Lg (h:Ag S C st st') {t:Ty}:∀ (i:Nat) (ps:List (Nat×Operand)),(∀ i,Operand.tmp i∈ps.map (·.2)->i∈S)->F5 t st.s i ps=F5 t st'.s i ps
 | _,[],_=>rfl
 | i,(j,x)::r,hp=>by
  unfold F5
  rw [CZ h (some t) x (fun i hi=>hp i (by simp [hi])),Lg h (i+1) r fun i hi=>hp i (by simp at hi ⊢;exact .inr hi)]
theorem MV (h:Ag S C st st') {tab:List (TypeId×Ty)}:∀ (xs:List Operand) (ts:List TypeId) (k:List TV->Option α),(∀ i,Operand.tmp i∈xs->i∈S)->GI tab st.l st.s xs ts k=GI tab st'.l st'.s xs ts k
 | [],[],_,_=>rfl
 | [],_::_,_,_=>rfl
 | _::_,[],_,_=>rfl
 | x::xs,t::ts,k,hp=>by
  simp only [GI]
  have hx:∀ i,x=.tmp i->i∈S:=fun i hi=>hp i (by simp [hi])
  rw [← CZ h (lk t tab) x hx,Ea h 6 _ _ (EN h (lk t tab) x hx)]
  congr 1
  funext v
  exact MV h xs ts _ fun i hi=>hp i (by simp [hi])
theorem Jy (h:Ag S C st st') {tab:List (TypeId×Ty)}:∀ (xs:List Operand) (ts:List TypeId),(∀ i,Operand.tmp i∈xs->i∈S)->allArgs tab st.s xs ts=allArgs tab st'.s xs ts
 | [],[],_=>rfl
 | [],_::_,_=>rfl
 | _::_,[],_=>rfl
 | x::xs,t::ts,hp=>by
  simp only [allArgs]
  rw [CZ h (lk t tab) x (fun i hi=>hp i (by simp [hi])),Jy h xs ts fun i hi=>hp i (by simp [hi])]
theorem Cz {o:Oper} {i:Nat} (h:Operand.tmp i∈o.op.operands):i∈slotsOf o:=by
 unfold slotsOf
 rw [List.mem_filterMap]
 exact ⟨.tmp i,by simpa using h,rfl⟩
theorem RI (h:Ag S C st st') {o:Oper} (hS:∀ i∈slotsOf o,i∈S) (id:Nat) (k:RV->Option Ob->Option α):CP E o st id k=CP E o st' id k:=by
 have sh:=Ub (E:=E) h hS k
 have hs:∀ i,Operand.tmp i∈o.op.operands->i∈S:=fun i hi=>hS i (Cz hi)
 have U9:=Kn h _ hS
 obtain ⟨dst,op,type,pos,af,guard⟩:=o
 have e1:∀ (ty:Option Ty) (x:Operand),x∈op.operands->Bf ty x st.s=Bf ty x st'.s:=fun ty x hx=>CZ h ty x fun i hi=>hs i (by rw [← hi];exact hx)
 have e2:∀ (ty:Option Ty) (x:Operand),x∈op.operands->Fe C (Bf ty x st'.s)=true:=fun ty x hx=>e1 ty x hx ▸ EN h ty x fun i hi=>hs i (by rw [← hi];exact hx)
 have nl:∀ (k:RV->Option α) (alt:Option α),Lb E { dst:=dst,op:=op,type:=type,pos:=pos,after:=af,guard:=guard } st k alt=Lb E { dst:=dst,op:=op,type:=type,pos:=pos,after:=af,guard:=guard } st' k alt:=by
  intro k alt
  cases op with
  | binOp op t x y u=>
   cases y with
   | const v=>simp only [Lb];rw [e1 none x (by simp [Op.operands])]
   | _=>rfl
  | slice T x lo hi mx=>
   cases lo with
   | some _=>cases mx <;> rfl
   | none=>
    cases hi with
    | none=>cases mx <;> rfl
    | some y=>
     cases mx with
     | some _=>rfl
     | none=>simp only [Lb];rw [e1 none x (by simp [Op.operands]),e1 (some (.int .i64)) y (by simp [Op.operands])]
  | call c=>
   obtain ⟨callee,args,ts⟩:=c
   cases callee with
   | builtin b=>
    cases b with
    | cap=>
     simp only [Lb]
     split
     ·rename_i x t hargs hts
      rw [e1 none x (by simp [Op.operands,Call.operands];rw [← Array.mem_toList_iff,hargs];simp)]
     ·rfl
    | _=>rfl
   | _=>rfl
  | _=>rfl
 cases op with
 | move x=>simp only [CP];rw [e1 _ x (by simp [Op.operands])]
 | assign x=>simp only [CP];rw [e1 _ x (by simp [Op.operands])]
 | pick c x y=>simp only [CP];rw [e1 _ x (by simp [Op.operands]),e1 _ y (by simp [Op.operands]),e1 _ c (by simp [Op.operands])]
 | alloc t=>rfl
 | box t x=>simp only [CP];simp only [e1 _ x (by simp [Op.operands])]
 | load T x=>
  simp only [CP,sh]
  rw [e1 _ x (by simp [Op.operands])]
  have hin:=e2 (lk type E.tab) x (by simp [Op.operands])
  split
  ·rename_i i p heq
   rw [heq] at hin
   rw [← h.l i (BZ.1 hin)]
  ·rfl
 | nilCheck x=>simp only [CP,sh];rw [e1 _ x (by simp [Op.operands])]
 | fieldAddr T x f=>
  simp only [CP,sh]
  rw [e1 _ x (by simp [Op.operands])]
  have hin:=e2 (lk type E.tab) x (by simp [Op.operands])
  split
  ·rename_i i p heq
   rw [heq] at hin
   rw [← h.l i (BZ.1 hin)]
  ·rfl
 | field T x f=>simp only [CP,sh];rw [e1 _ x (by simp [Op.operands])]
 | indexAddr T x i=>
  simp only [CP,sh]
  rw [e1 _ x (by simp [Op.operands]),e1 _ i (by simp [Op.operands])]
  have hin:=e2 (lk type E.tab) x (by simp [Op.operands])
  split
  ·rename_i id p heq
   rw [heq] at hin
   rw [← h.l id (BZ.1 hin)]
  ·rename_i id heq
   rw [heq] at hin
   rw [← h.l id (BZ.1 hin)]
  ·rename_i id lo hi heq
   rw [heq] at hin
   rw [← h.l id (BZ.1 hin)]
  ·rfl
 | slice T x lo hi mx=>
  cases mx with
  | some z=>
   cases hi with
   | none=>simp only [CP,sh,nl]
   | some y=>
    have hlo:(lo.map fun y=>Bf (some (.int .i64)) y st.s)=(lo.map fun y=>Bf (some (.int .i64)) y st'.s):=by
     cases lo with
     | none=>rfl
     | some y=>simp only [BH];rw [e1 _ y (by simp [Op.operands])]
    have hhi:((some y).map fun y=>Bf (some (.int .i64)) y st.s)=((some y).map fun y=>Bf (some (.int .i64)) y st'.s):=by
     simp only [BH];rw [e1 _ y (by simp [Op.operands])]
    have hz:=e1 (some (.int .i64)) z (by simp [Op.operands])
    simp only [CP,sh,hlo,hhi,hz]
    rw [e1 _ x (by simp [Op.operands])]
    have hin:=e2 (lk type E.tab) x (by simp [Op.operands])
    split
    ·rename_i id heq
     rw [heq] at hin
     rw [← h.l id (BZ.1 hin)]
    ·rename_i id a b heq
     rw [heq] at hin
     rw [← h.l id (BZ.1 hin)]
    ·rfl
  | none=>
   have hlo:(lo.map fun y=>Bf (some (.int .i64)) y st.s)=(lo.map fun y=>Bf (some (.int .i64)) y st'.s):=by
    cases lo with
    | none=>rfl
    | some y=>simp only [BH];rw [e1 _ y (by simp [Op.operands])]
   have hhi:(hi.map fun y=>Bf (some (.int .i64)) y st.s)=(hi.map fun y=>Bf (some (.int .i64)) y st'.s):=by
    cases hi with
    | none=>rfl
    | some y=>simp only [BH];rw [e1 _ y (by simp [Op.operands])]
   simp only [CP,sh,hlo,hhi,nl]
   rw [e1 _ x (by simp [Op.operands])]
   have hin:=e2 (lk type E.tab) x (by simp [Op.operands])
   split
   ·rename_i id heq
    rw [heq] at hin
    rw [← h.l id (BZ.1 hin)]
   ·rename_i id a b heq
    rw [heq] at hin
    rw [← h.l id (BZ.1 hin)]
   ·rfl
 | extract x i=>simp only [CP];rw [e1 _ x (by simp [Op.operands])]
 | makeFunc f first caps=>
  cases f with
  | func g=>
   simp only [CP]
   have:(caps.toList.map fun x=>Bf none x st.s)=(caps.toList.map fun x=>Bf none x st'.s):=by
    refine List.map_congr_left fun x hx=>e1 none x ?_
    simp only [Op.operands]
    simp
    exact Or.inr (by simpa using hx)
   rw [this]
  | _=>simp only [CP,sh,nl]
 | build t parts=>
  have hp:∀ i,Operand.tmp i∈(Fa parts.toList).map (·.2)->i∈S:=fun i hi=>hs i (by
   obtain ⟨p,h1,h2⟩:=List.mem_map.1 hi
   have:Operand.tmp i∈parts.toList.map (·.2):=List.mem_map.2 ⟨p,HZ.1 h1,h2⟩
   simpa [Op.operands] using this)
  simp only [CP,sh,U9]
  congr 1
  funext ty
  congr 1
  cases ty <;> simp only [P8 h _ _ _ hp]
 | buildSlice t n parts=>
  have hp:∀ i,Operand.tmp i∈parts.toList.map (·.2)->i∈S:=fun i hi=>hs i (by simpa [Op.operands] using hi)
  simp only [CP]
  congr 1
  funext ty
  cases ty <;> simp only [Lg h _ _ hp]
 | convert src dst x=>simp only [CP,sh];simp only [e1 _ x (by simp [Op.operands])]
 | makeMap t hint=>cases hint <;> simp only [CP,sh,nl]
 | lookup t m x c=>
  simp only [CP,RB]
  have hin:=e2 none m (by simp [Op.operands])
  rw [e1 none m (by simp [Op.operands])]
  split
  ·rename_i i heq
   rw [heq] at hin
   rw [← h.l i (BZ.1 hin)]
   split
   ·rename_i kt vt es _
    rw [← e1 (some kt) x (by simp [Op.operands]),Ea h 6 _ _ (EN h (some kt) x fun i hi=>hs i (by rw [← hi];simp [Op.operands]))]
   ·rfl
  ·rfl
 | makeSlice t l c=>simp only [CP];simp only [e1 _ l (by simp [Op.operands]),e1 _ c (by simp [Op.operands])]
 | call c=>
  obtain ⟨callee,args,ts⟩:=c
  cases callee with
  | value f=>
   have hp:∀ i,Operand.tmp i∈args.toList->i∈S:=fun i hi=>hs i (by simp [Op.operands,Call.operands];exact .inr (by simpa using hi))
   simp only [CP]
   rw [e1 none f (by simp [Op.operands,Call.operands])]
   split
   ·congr 1
    funext fn
    unfold Ma
    rw [Jy h _ _ hp,MV h _ _ _ hp]
   ·rfl
  | invoke r m=>simp only [CP,sh,nl]
  | builtin b=>simp only [CP,sh,nl]
 | _=>simp only [CP,sh,nl]
theorem Og (h:Ag S C st st') {e:Ty} {rv:RV} (hr:Fe C rv=true):MI st.l e rv=MI st'.l e rv:=by
 cases rv with
 | row id=>simp only [MI,h.l id (BZ.1 hr)]
 | sub id lo hi=>simp only [MI,h.l id (BZ.1 hr)]
 | _=>rfl
theorem Ug (h:Ag S C st st') {tab:List (TypeId×Ty)} {u:TypeId} {e:Ty} {rv:RV} (hr:Fe C rv=true):Pf tab u st.l e rv=Pf tab u st'.l e rv:=by
 cases rv with
 | row id=>simp only [Pf,h.l id (BZ.1 hr)]
 | sub id lo hi=>simp only [Pf,h.l id (BZ.1 hr)]
 | val v=>obtain ⟨t,y⟩:=v;cases t <;> rfl
 | _=>rfl
theorem TD (h:Ag S C st st') {args:Array Operand} {ts:Array TypeId} (hp:∀ i,Operand.tmp i∈args.toList->i∈S) (k:(e:Ty)->List e.den->Option Nat->Option α):NR E args ts st k=NR E args ts st' k:=by
 unfold NR
 split
 ·rename_i sx x t u hargs hts
  have e1:∀ ty,Bf ty sx st.s=Bf ty sx st'.s:=fun ty=>CZ h ty sx fun i hi=>hp i (by rw [hargs,hi];simp)
  have e2:∀ ty,Bf ty x st.s=Bf ty x st'.s:=fun ty=>CZ h ty x fun i hi=>hp i (by rw [hargs,hi];simp)
  split
  ·rename_i e _
   rw [Og h (EN h (some (.slice e)) sx fun i hi=>hp i (by rw [hargs,hi];simp)),Ug h (EN h (lk u E.tab) x fun i hi=>hp i (by rw [hargs,hi];simp)),e1,e2]
  ·rfl
 ·rfl
theorem Tt (h:Ag S C st st') {t:TypeId} {m x y:Operand} (hm:∀ i,m=.tmp i->i∈S) (hx:∀ i,x=.tmp i->i∈S) (hy:∀ i,y=.tmp i->i∈S) (k:Nat->Ob->Option α):MN E t m x y st k=MN E t m x y st' k:=by
 have hin:=EN h none m hm
 unfold MN
 rw [← CZ h none m hm]
 split
 ·rename_i i heq
  rw [heq] at hin
  rw [← h.l i (BZ.1 hin)]
  split
  ·rename_i kt vt es _
   rw [← CZ h (some kt) x hx,← CZ h (some vt) y hy,Ea h 6 _ _ (EN h (some kt) x hx)]
   congr 1
   congr 1
   funext v
   congr 1
   funext z
   exact Ea h 6 _ _ (EN h (some vt) y hy)
  ·rfl
 ·rfl
theorem Qq (h:Ag S C st st') {t:TypeId} {x y:Operand} (hx:∀ i,x=.tmp i->i∈S) (hy:∀ i,y=.tmp i->i∈S) (k:Nat->Ob->Option α):FD E t x y st k=FD E t x y st' k:=by
 have e1:∀ ty,Bf ty x st.s=Bf ty x st'.s:=fun ty=>CZ h ty x hx
 have e2:∀ ty,Bf ty y st.s=Bf ty y st'.s:=fun ty=>CZ h ty y hy
 have hin:=EN h (lk t E.tab) x hx
 unfold FD
 simp only [e2]
 rw [e1] at hin ⊢
 split
 ·rename_i id p heq
  rw [heq] at hin
  rw [← h.l id (BZ.1 hin)]
 ·rfl
theorem Ke:∀ {rv:RV} {acc:List Nat} {i:Nat},Fe C rv=true->i∈Fx rv acc->i∈C∨i∈acc:=by
 intro rv
 induction rv with
 | row id=>intro acc i h hi;rcases List.mem_cons.1 hi with rfl | hi;exact .inl (BZ.1 h);exact .inr hi
 | sub id _ _=>intro acc i h hi;rcases List.mem_cons.1 hi with rfl | hi;exact .inl (BZ.1 h);exact .inr hi
 | loc id _=>intro acc i h hi;rcases List.mem_cons.1 hi with rfl | hi;exact .inl (BZ.1 h);exact .inr hi
 | mp id=>intro acc i h hi;rcases List.mem_cons.1 hi with rfl | hi;exact .inl (BZ.1 h);exact .inr hi
 | yl id=>intro acc i h hi;rcases List.mem_cons.1 hi with rfl | hi;exact .inl (BZ.1 h);exact .inr hi
 | Ee f c ih=>intro acc i h hi;exact ih h hi
 | agg t r ih=>intro acc i h hi;exact ih h hi
 | Db r ih=>intro acc i h hi;exact ih h hi
 | pair a b iha ihb=>
  intro acc i h hi
  simp only [Fe,AP] at h
  rcases iha h.1 hi with h1 | h1
  ·exact .inl h1
  ·exact ihb h.2 h1
 | _=>intro acc i _ hi;exact .inr hi
theorem Q9:∀ {CO:List RV},(∀ rv∈CO,Fe C rv=true)->∀ i∈R4 CO,i∈C
 | [],_,i,hi=>by simp [R4] at hi
 | r::rs,h,i,hi=>by
  rcases Ke (h r (by simp)) hi with h1 | h1
  ·exact h1
  ·exact Q9 (fun rv hr=>h rv (by simp [hr])) i h1
theorem EB (h:Ag S C st st'):∀ (n:Nat) (todo seen:List Nat),(∀ i∈todo,i∈C)->reach st.l n todo seen=reach st'.l n todo seen/\∀ i∈reach st.l n todo seen,i∈C∨i∈seen
 | 0,_,seen,_=>⟨rfl,fun i hi=>.inr hi⟩
 | n+1,[],seen,_=>⟨rfl,fun i hi=>.inr hi⟩
 | n+1,id::todo,seen,ht=>by
  have hid:=ht id (by simp)
  have ht':∀ i∈todo,i∈C:=fun i hi=>ht i (by simp [hi])
  have snoc:∀ {i:Nat},i∈C∨i∈seen++[id]->i∈C∨i∈seen:=by
   intro i hi
   rcases hi with hi | hi
   ·exact .inl hi
   ·rcases List.mem_append.1 hi with hi | hi
    ·exact .inr hi
    ·simp at hi;subst hi;exact .inl hid
  simp only [reach]
  rw [← h.l id hid]
  cases seen.any (Nat.beq id) with
  | true=>exact EB h n todo seen ht'
  | false=>
   simp only [AJ]
   split
   ·rename_i t con hl
    obtain ⟨h1,h2⟩:=EB h n (Fx con todo) (seen++[id]) fun i hi=>(Ke (h.c id hid t con hl) hi).elim (fun h=>h) (ht' i)
    exact ⟨h1,fun i hi=>snoc (h2 i hi)⟩
   ·obtain ⟨h1,h2⟩:=EB h n todo (seen++[id]) ht'
    exact ⟨h1,fun i hi=>snoc (h2 i hi)⟩
   ·obtain ⟨h1,h2⟩:=EB h n todo (seen++[id]) ht'
    exact ⟨h1,fun i hi=>snoc (h2 i hi)⟩
   ·rename_i con q hl
    obtain ⟨h1,h2⟩:=EB h n (Fx con todo) (seen++[id]) fun i hi=>(Ke (h.y id hid con q hl) hi).elim (fun h=>h) (ht' i)
    exact ⟨h1,fun i hi=>snoc (h2 i hi)⟩
   ·exact EB h n todo seen ht'
theorem PN (h:Ag S C st st') {f:Nat->Option Nat}:∀ (ids:List Nat) (n:Nat),(∀ i∈ids,i∈C)->Ep f st.l ids n=Ep f st'.l ids n
 | [],_,_=>rfl
 | i::r,n,hi=>by
  simp only [Ep]
  rw [← h.l i (hi i (by simp)),PN h r (n+1) fun j hj=>hi j (by simp [hj])]
theorem Tn:∀ {r:RV} {cs:List RV},GJ r=some cs->Fe C r=true->∀ rv∈cs,Fe C rv=true:=by
 intro r
 induction r with
 | unit=>intro cs h _ rv hr;cases h;cases hr
 | pair a b _ ihb=>
  intro cs h hc rv hr
  simp only [Fe,AP] at hc
  simp only [GJ] at h
  obtain ⟨r,h1,h⟩:=AO.1 h
  cases h
  rcases List.mem_cons.1 hr with rfl | hr
  ·exact hc.1
  ·exact ihb h1 hc.2 rv hr
 | _=>intro cs h;cases h
theorem UO (h:Ag S C st st') {c:FB} {args:Array Operand} {ts:Array TypeId} {caps:RV} (hp:∀ i,Operand.tmp i∈args.toList->i∈S) (hc:Fe C caps=true) (k:Nat->Ob->RV->Option α):KX E c args ts caps st k=KX E c args ts caps st' k:=by
 have hargs:((args.toList.zip ts.toList).map fun p=>Bf (lk p.2 E.tab) p.1 st.s)=(args.toList.zip ts.toList).map fun p=>Bf (lk p.2 E.tab) p.1 st'.s:=
  List.map_congr_left fun p hp'=>CZ h _ p.1 fun i e=>hp i (by rw [← e];exact (List.of_mem_zip hp').1)
 have hin:∀ rv∈(args.toList.zip ts.toList).map fun p=>Bf (lk p.2 E.tab) p.1 st.s,Fe C rv=true:=by
  intro rv hr
  obtain ⟨p,hp',rfl⟩:=List.mem_map.1 hr
  exact EN h _ p.1 fun i e=>hp i (by rw [← e];exact (List.of_mem_zip hp').1)
 unfold KX
 rw [← hargs]
 congr 1
 cases hcs:GJ caps with
 | none=>rfl
 | some cs=>
  simp only [AA]
  have hin2:∀ rv∈((args.toList.zip ts.toList).map fun p=>Bf (lk p.2 E.tab) p.1 st.s)++cs,Fe C rv=true:=by
   intro rv hr
   rcases List.mem_append.1 hr with hr | hr
   ·exact hin rv hr
   ·exact Tn hcs hc rv hr
  obtain ⟨h1,h2⟩:=EB h 200 (R4 (((args.toList.zip ts.toList).map fun p=>Bf (lk p.2 E.tab) p.1 st.s)++cs)) [] (Q9 hin2)
  unfold Vd
  have h3:FM st'.l (((args.toList.zip ts.toList).map fun p=>Bf (lk p.2 E.tab) p.1 st.s)++cs)=FM st.l (((args.toList.zip ts.toList).map fun p=>Bf (lk p.2 E.tab) p.1 st.s)++cs):=h1.symm
  have h4:∀ i∈FM st.l (((args.toList.zip ts.toList).map fun p=>Bf (lk p.2 E.tab) p.1 st.s)++cs),i∈C:=fun i hi=>(h2 i hi).resolve_right (by simp)
  rw [h3]
  generalize FM st.l (((args.toList.zip ts.toList).map fun p=>Bf (lk p.2 E.tab) p.1 st.s)++cs)=ids at h4
  have h5:Ep (fun id=>D7 id ids 0) st.l ids 0=Ep (fun id=>D7 id ids 0) st'.l ids 0:=PN h ids 0 h4
  simp only [h5]
theorem M9 (h:Ag S C st st') {o:Oper} (hS:∀ i∈slotsOf o,i∈S) {γ:Type} {T:List (FuncId×γ)} {yes YA:γ->Array Operand->Array TypeId->RV->Option α} {no ZJ:Option α} (hn:no=ZJ)
  (hy:∀ c args ts caps,(∀ i,Operand.tmp i∈args.toList->i∈S)->Fe C caps=true->yes c args ts caps=YA c args ts caps):JA T o st yes no=JA T o st' YA ZJ:=by
 unfold JA
 subst hn
 split
 ·rename_i f args ts hop
  have hf:∀ i,f=.tmp i->i∈S:=fun i hi=>hS i (Cz (by simp [hop,Op.operands,Call.operands,hi]))
  rw [← CZ h none f hf]
  have hin:=EN h none f hf
  split
  ·rename_i g caps heq
   rw [heq] at hin
   split
   ·exact hy _ _ _ _ (fun i hi=>hS i (Cz (by simp [hop,Op.operands,Call.operands];simp at hi;exact .inr hi))) hin
   ·rfl
  ·rfl
 ·rfl
theorem M8 {γ:Type} {T:List (FuncId×γ)} {o:Oper} {yes:γ->Array Operand->Array TypeId->RV->Option α} {no:Option α} {r:α} (h:JA T o st yes no=some r) :
  (∃ f args ts g caps c,o.op=.call { callee:=.value f,args:=args,argTypes:=ts }/\Bf none f st.s=.Ee g caps/\lk g T=some c/\yes c args ts caps=some r)∨no=some r:=by
 unfold JA at h
 split at h
 ·rename_i f args ts hop
  split at h
  ·rename_i g caps heq
   split at h
   ·rename_i c hc
    exact .inl ⟨f,args,ts,g,caps,c,hop,heq,hc,h⟩
   ·exact .inr h
  ·exact .inr h
 ·exact .inr h
theorem PK {γ:Type} {T:List (FuncId×γ)} {X:Type} {o:Oper} {yes:(β:Type)->(X->Option β)->γ->Array Operand->Array TypeId->RV->Option β} {no:(β:Type)->(X->Option β)->Option β} (hy:∀ c a t r,PC (fun β k=>yes β k c a t r)) (hn:PC no):PC (fun β k=>JA T o st (yes β k) (no β k)):=by
 unfold JA
 split
 ·split
  ·split
   ·exact hy _ _ _ _
   ·exact hn
  ·exact hn
 ·exact hn
theorem Rv (h:Ag S C st st') {c:MF} {args:Array Operand} {ts:Array TypeId} {caps:RV} (hp:∀ i,Operand.tmp i∈args.toList->i∈S) (k:(e:Ty)->List e.den->Option Nat->Option α):H6 E c args ts caps st k=H6 E c args ts caps st' k:=by
 unfold H6
 split
 ·rename_i sx xs t us hargs _
  have e1:Bf (lk t E.tab) sx st.s=Bf (lk t E.tab) sx st'.s:=CZ h _ sx fun i hi=>hp i (by rw [hargs,hi];simp)
  have e2:((xs.zip us).map fun p=>Bf (lk p.2 E.tab) p.1 st.s)=(xs.zip us).map fun p=>Bf (lk p.2 E.tab) p.1 st'.s:=
   List.map_congr_left fun p hp'=>CZ h _ p.1 fun i e=>hp i (by rw [hargs,← e];exact List.mem_cons_of_mem _ (List.of_mem_zip hp').1)
  rw [Og h (EN h (lk t E.tab) sx fun i hi=>hp i (by rw [hargs,hi];simp)),e1,e2]
 ·rfl
theorem LA {c:MF} {args:Array Operand} {ts:Array TypeId} {caps:RV}:PC (fun β (k:((e:Ty)×List e.den×Option Nat)->Option β)=>H6 E c args ts caps st fun e z old=>k ⟨e,z,old⟩):=by
 unfold H6
 split
 ·exact PC.bif (PC.bind (X:=(e:Ty)×List e.den×Option Nat) fun X=>PC.bind fun y=>PC.bind fun z=>PC.ret _) PC.none
 ·exact PC.none
theorem Lf (h:Ag S C st st') {id:Nat} {u:Ty} {xs:List u.den} {t:Ty}:∀ (i:Nat) (ps:List (Nat×Operand)),(∀ i,Operand.tmp i∈ps.map (·.2)->i∈S)->Gh id u xs t st.s i ps=Gh id u xs t st'.s i ps
 | _,[],_=>rfl
 | i,(j,x)::r,hp=>by
  unfold Gh
  rw [CZ h (some t) x fun i e=>hp i (by simp [e]),Lf h (i+1) r fun i hi=>hp i (by simp at hi ⊢;exact .inr hi)]
theorem SN (h:Ag S C st st') {o:Oper} (hS:∀ i∈slotsOf o,i∈S):H9 o st=H9 o st':=by
 unfold H9
 have:∀ l:List Nat,(∀ i∈l,i∈S)->l.foldr (fun i acc=>match lk i st.s with | some rv=>Fx rv acc | none=>acc) []=l.foldr (fun i acc=>match lk i st'.s with | some rv=>Fx rv acc | none=>acc) []:=by
  intro l
  induction l with
  | nil=>intro _;rfl
  | cons i l ih=>
   intro hl
   simp only [List.foldr_cons]
   rw [ih fun j hj=>hl j (by simp [hj]),h.s i (hl i (by simp))]
 exact this _ hS
theorem UC (h:Ag S C st st') {o:Oper} (hS:∀ i∈slotsOf o,i∈S):∀ i∈H9 o st,i∈C:=by
 unfold H9
 have:∀ l:List Nat,(∀ i∈l,i∈S)->∀ i∈l.foldr (fun i acc=>match lk i st.s with | some rv=>Fx rv acc | none=>acc) [],i∈C:=by
  intro l
  induction l with
  | nil=>intro _ i hi;simp at hi
  | cons j l ih=>
   intro hl i hi
   simp only [List.foldr_cons] at hi
   cases hs:lk j st.s with
   | none=>rw [hs] at hi;exact ih (fun j hj=>hl j (by simp [hj])) i hi
   | some rv=>
    rw [hs] at hi
    exact (Ke (h.n j (hl j (by simp)) rv hs) hi).elim (fun h=>h) (ih (fun j hj=>hl j (by simp [hj])) i)
 exact this _ hS
theorem P6 (h:Ag S C st st') {t:TypeId} {n:Nat} {parts:List (Nat×Operand)} {id:Nat} (hp:∀ i,Operand.tmp i∈parts.map (·.2)->i∈S) (hid:id∈C) (k:(e:Ty)->List e.den->Option α):Fp E t n parts id st k=Fp E t n parts id st' k:=by
 unfold Fp
 rw [← h.l id hid]
 split
 ·congr 1
  funext ty
  split
  ·rw [Lf h 0 parts hp]
  ·rfl
 ·rfl
end
end Go.Lift
