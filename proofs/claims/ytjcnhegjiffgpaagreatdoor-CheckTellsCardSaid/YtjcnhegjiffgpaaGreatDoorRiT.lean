import Derived.Test.YtjcnhegjiffgpaaGreatDoorRiQ
set_option linter.unusedSimpArgs false
namespace Go.Lift
open Go.RowKit
theorem CW {C:List Nat} {i:Nat}:C.any (Nat.beq i)=true↔i∈C:=by
 rw [List.any_eq_true]
 constructor
 ·rintro ⟨x,h1,h2⟩
  have:=Aa h2
  subst this
  exact h1
 ·intro h
  exact ⟨i,h,by simp⟩
structure Ag (S C:List Nat) (st st':St):Prop where
 s:∀ i∈S,lk i st.s=lk i st'.s
 l:∀ i∈C,lk i st.l=lk i st'.l
 b:st.b=st'.b
 n:∀ i∈S,∀ rv,lk i st.s=some rv->Xb C rv=true
 c:∀ i∈C,∀ ty con,lk i st.l=some (.var ty con)->Xb C con=true
 y:∀ i∈C,∀ con q,lk i st.l=some (.lp con q)->Xb C con=true
section
variable {α:Type} {S C:List Nat} {st st':St} {E:CO}
theorem HZ (h:Ag S C st st') (ty:Option Ty) (x:Operand) (hx:∀ i,x=.tmp i->i∈S):DT ty x st.s=DT ty x st'.s:=by
 unfold DT
 cases x with
 | tmp i=>simp only [h.s i (hx i rfl)]
 | _=>rfl
theorem Sy (h:Ag S C st st') (ty:Option Ty) (x:Operand) (hx:∀ i,x=.tmp i->i∈S):Xb C (DT ty x st.s)=true:=by
 cases x with
 | tmp i=>
  simp only [DT]
  cases hl:lk i st.s with
  | none=>rfl
  | some rv=>exact h.n i (hx i rfl) rv hl
 | const v=>
  simp only [DT]
  split
  ·cases WR v <;> rfl
  ·split <;> rfl
  ·rfl
 | func f=>rfl
 | global g=>simp only [DT];split <;> rfl
theorem QHL {k k':Ty->RV->Option α} (hk:∀ t rv,Xb C rv=true->k t rv=k' t rv):∀ (t:Ty) (rv:RV) (p:List Step),Xb C rv=true->LK k t rv p=LK k' t rv p:=by
 intro t rv p
 fun_induction LK k t rv p with
 | case1 t rv=>intro h;simpa only [LK] using hk t rv h
 | case2 a b x y p ih=>
  intro h
  simp only [Xb,AP] at h
  simpa only [LK] using ih h.1
 | case3 a b x y p n ih=>
  intro h
  simp only [Xb,AP] at h
  simpa only [LK] using ih h.2
 | case4 t v s p=>
  intro _
  simp only [LK]
  congr 1
  funext u
  exact hk _ _ rfl
 | case5 t rv p h1 h2 h3 h4=>
  intro _
  unfold LK
  split
  ·exact (h1 rfl).elim
  ·exact (h3 _ _ _ _ _ rfl rfl rfl).elim
  ·exact (h4 _ _ _ _ _ _ rfl rfl rfl).elim
  ·exact (h2 _ _ _ rfl rfl).elim
  ·rfl
theorem xS {pk pk':RV->(TV->Option α)->Option α} (hpk:∀ rv k,Xb C rv=true->pk rv k=pk' rv k):∀ (rv:RV) (t:Ty) (k:t.den->Option α),Xb C rv=true->Ji pk rv t k=Ji pk' rv t k:=by
 intro rv
 induction rv with
 | pair x y ihx ihy=>
  intro t k h
  simp only [Xb,AP] at h
  cases t with
  | pair a b=>
   simp only [Ji]
   rw [ihx a _ h.1]
   congr 1
   funext z
   exact ihy b _ h.2
  | _=>rfl
 | val v=>intro t k h;rfl
 | unit=>intro t k h;rfl
 | any=>intro t k h;rfl
 | _=>intro t k h;exact hpk _ _ h
theorem UL (h:Ag S C st st'):∀ (n:Nat) (rv:RV) (k:TV->Option α),Xb C rv=true->DU st.l n rv k=DU st'.l n rv k
 | 0,_,_,_=>rfl
 | n+1,rv,k,hr=>by
  have ih:∀ rv (k:TV->Option α),Xb C rv=true->DU st.l n rv k=DU st'.l n rv k:=λrv k hr=>UL h n rv k hr
  cases rv with
  | row id=>simp only [DU,h.l id (CW.1 hr)]
  | sub id lo hi=>simp only [DU,h.l id (CW.1 hr)]
  | loc id p=>
   simp only [DU]
   rw [<- h.l id (CW.1 hr)]
   cases hl:lk id st.l with
   | none=>rfl
   | some ob=>
    cases ob with
    | var ty con=>exact QHL (λt rv hrv=>xS ih rv t _ hrv) ty con p (h.c id (CW.1 hr) ty con hl)
    | row t xs=>rfl
    | mp kt vt es=>rfl
    | lp c q=>rfl
  | agg t r=>exact xS ih r t _ hr
  | _=>rfl
theorem QG4 (h:Ag S C st st'):∀ (is:List Nat) (k:List (Nat×AV)->Option α),(∀ i∈is,i∈S)->shK st.l st.s is k=shK st'.l st'.s is k
 | [],_,_=>rfl
 | i::r,k,hi=>by
  simp only [shK]
  rw [<- h.s i (hi i (by simp))]
  cases hl:lk i st.s with
  | none=>rfl
  | some rv=>
   simp only
   rw [UL h 6 rv _ (h.n i (hi i (by simp)) rv hl)]
   congr 1
   funext v
   exact QG4 h r _ λj hj=>hi j (by simp [hj])
theorem qW (h:Ag S C st st') (is:List Nat) (hi:∀ i∈is,i∈S):Qr st.s is=Qr st'.s is:=by
 unfold Qr
 induction is with
 | nil=>rfl
 | cons i r ih=>
  simp only [List.all_cons]
  rw [h.s i (hi i (by simp)),ih λj hj=>hi j (by simp [hj])]
theorem QLt (h:Ag S C st st') {o:Oper} (hS:∀ i∈slotsOf o,i∈S) (k:RV->Option Ob->Option α):XU E o st k=XU E o st' k:=by
 unfold XU
 rw [QG4 h _ _ hS,qW h _ hS]
theorem QDR (h:Ag S C st st'):∀ (t:Ty) (i:Nat) (ps:List (Nat×Operand)),(∀ i,Operand.tmp i∈ps.map (·.2)->i∈S)->H8 st.s t i ps=H8 st'.s t i ps:=by
 intro t
 induction t with
 | pair a b iha ihb=>
  intro i ps hp
  cases ps with
  | nil=>simp only [H8];rw [ihb (i+1) [] (by simp)]
  | cons p r=>
   obtain ⟨j,x⟩:=p
   unfold H8
   rw [HZ h (some a) x (λi hi=>hp i (by simp [hi])),ihb (i+1) r (λi hi=>hp i (by simp at hi ⊢;exact .inr hi)),ihb (i+1) ((j,x)::r) hp]
 | _=>intro i ps hp;cases ps <;> rfl
theorem tT (h:Ag S C st st') {t:Ty}:∀ (i:Nat) (ps:List (Nat×Operand)),(∀ i,Operand.tmp i∈ps.map (·.2)->i∈S)->YS t st.s i ps=YS t st'.s i ps
 | _,[],_=>rfl
 | i,(j,x)::r,hp=>by
  unfold YS
  rw [HZ h (some t) x (λi hi=>hp i (by simp [hi])),tT h (i+1) r λi hi=>hp i (by simp at hi ⊢;exact .inr hi)]
theorem vZ (h:Ag S C st st') {tab:List (TypeId×Ty)}:∀ (xs:List Operand) (ts:List TypeId) (k:List TV->Option α),(∀ i,Operand.tmp i∈xs->i∈S)->Yh tab st.l st.s xs ts k=Yh tab st'.l st'.s xs ts k
 | [],[],_,_=>rfl
 | [],_::_,_,_=>rfl
 | _::_,[],_,_=>rfl
 | x::xs,t::ts,k,hp=>by
  simp only [Yh]
  have hx:∀ i,x=.tmp i->i∈S:=λi hi=>hp i (by simp [hi])
  rw [<- HZ h (lk t tab) x hx,UL h 6 _ _ (Sy h (lk t tab) x hx)]
  congr 1
  funext v
  exact vZ h xs ts _ λi hi=>hp i (by simp [hi])
theorem lg (h:Ag S C st st') {tab:List (TypeId×Ty)}:∀ (xs:List Operand) (ts:List TypeId),(∀ i,Operand.tmp i∈xs->i∈S)->allArgs tab st.s xs ts=allArgs tab st'.s xs ts
 | [],[],_=>rfl
 | [],_::_,_=>rfl
 | _::_,[],_=>rfl
 | x::xs,t::ts,hp=>by
  simp only [allArgs]
  rw [HZ h (lk t tab) x (λi hi=>hp i (by simp [hi])),lg h xs ts λi hi=>hp i (by simp [hi])]
theorem Kn {o:Oper} {i:Nat} (h:Operand.tmp i∈o.op.operands):i∈slotsOf o:=by
 unfold slotsOf
 rw [List.mem_filterMap]
 exact ⟨.tmp i,by simpa using h,rfl⟩
theorem QFp (h:Ag S C st st') {o:Oper} (hS:∀ i∈slotsOf o,i∈S) (id:Nat) (k:RV->Option Ob->Option α):FZ E o st id k=FZ E o st' id k:=by
 have sh:=QLt (E:=E) h hS k
 have hs:∀ i,Operand.tmp i∈o.op.operands->i∈S:=λi hi=>hS i (Kn hi)
 have hav:=qW h _ hS
 obtain ⟨dst,op,type,pos,af,guard⟩:=o
 have e1:∀ (ty:Option Ty) (x:Operand),x∈op.operands->DT ty x st.s=DT ty x st'.s:=λty x hx=>HZ h ty x λi hi=>hs i (by rw [<- hi];exact hx)
 have e2:∀ (ty:Option Ty) (x:Operand),x∈op.operands->Xb C (DT ty x st'.s)=true:=λty x hx=>e1 ty x hx ▸ Sy h ty x λi hi=>hs i (by rw [<- hi];exact hx)
 have nl:∀ (k:RV->Option α) (alt:Option α),tJ E { dst:=dst,op:=op,type:=type,pos:=pos,after:=af,guard:=guard } st k alt=tJ E { dst:=dst,op:=op,type:=type,pos:=pos,after:=af,guard:=guard } st' k alt:=by
  intro k alt
  cases op with
  | binOp op t x y u=>
   cases y with
   | const v=>simp only [tJ];rw [e1 none x (by simp [Op.operands])]
   | _=>rfl
  | slice T x lo hi mx=>
   cases lo with
   | some _=>cases mx <;> rfl
   | none=>
    cases hi with
    | none=>cases mx <;> rfl
    | some y=>
     cases mx with
     | some _=>rfl
     | none=>simp only [tJ];rw [e1 none x (by simp [Op.operands]),e1 (some (.int .i64)) y (by simp [Op.operands])]
  | call c=>
   obtain ⟨callee,args,ts⟩:=c
   cases callee with
   | builtin b=>
    cases b with
    | cap=>
     simp only [tJ]
     split
     ·rename_i x t hargs hts
      rw [e1 none x (by simp [Op.operands,Call.operands];rw [<- Array.mem_toList_iff,hargs];simp)]
     ·rfl
    | _=>rfl
   | _=>rfl
  | _=>rfl
 cases op with
 | move x=>simp only [FZ];rw [e1 _ x (by simp [Op.operands])]
 | assign x=>simp only [FZ];rw [e1 _ x (by simp [Op.operands])]
 | pick c x y=>simp only [FZ];rw [e1 _ x (by simp [Op.operands]),e1 _ y (by simp [Op.operands]),e1 _ c (by simp [Op.operands])]
 | alloc t=>rfl
 | box t x=>simp only [FZ];simp only [e1 _ x (by simp [Op.operands])]
 | load T x=>
  simp only [FZ,sh]
  rw [e1 _ x (by simp [Op.operands])]
  have hin:=e2 (lk type E.tab) x (by simp [Op.operands])
  split
  ·rename_i i p heq
   rw [heq] at hin
   rw [<- h.l i (CW.1 hin)]
  ·rfl
 | nilCheck x=>simp only [FZ,sh];rw [e1 _ x (by simp [Op.operands])]
 | fieldAddr T x f=>
  simp only [FZ,sh]
  rw [e1 _ x (by simp [Op.operands])]
  have hin:=e2 (lk type E.tab) x (by simp [Op.operands])
  split
  ·rename_i i p heq
   rw [heq] at hin
   rw [<- h.l i (CW.1 hin)]
  ·rfl
 | field T x f=>simp only [FZ,sh];rw [e1 _ x (by simp [Op.operands])]
 | indexAddr T x i=>
  simp only [FZ,sh]
  rw [e1 _ x (by simp [Op.operands]),e1 _ i (by simp [Op.operands])]
  have hin:=e2 (lk type E.tab) x (by simp [Op.operands])
  split
  ·rename_i id p heq
   rw [heq] at hin
   rw [<- h.l id (CW.1 hin)]
  ·rename_i id heq
   rw [heq] at hin
   rw [<- h.l id (CW.1 hin)]
  ·rename_i id lo hi heq
   rw [heq] at hin
   rw [<- h.l id (CW.1 hin)]
  ·rfl
 | slice T x lo hi mx=>
  cases mx with
  | some z=>
   cases hi with
   | none=>simp only [FZ,sh,nl]
   | some y=>
    have hlo:(lo.map λy=>DT (some (.int .i64)) y st.s)=(lo.map λy=>DT (some (.int .i64)) y st'.s):=by
     cases lo with
     | none=>rfl
     | some y=>simp only [BI];rw [e1 _ y (by simp [Op.operands])]
    have hhi:((some y).map λy=>DT (some (.int .i64)) y st.s)=((some y).map λy=>DT (some (.int .i64)) y st'.s):=by
     simp only [BI];rw [e1 _ y (by simp [Op.operands])]
    have hz:=e1 (some (.int .i64)) z (by simp [Op.operands])
    simp only [FZ,sh,hlo,hhi,hz]
    rw [e1 _ x (by simp [Op.operands])]
    have hin:=e2 (lk type E.tab) x (by simp [Op.operands])
    split
    ·rename_i id heq
     rw [heq] at hin
     rw [<- h.l id (CW.1 hin)]
    ·rename_i id a b heq
     rw [heq] at hin
     rw [<- h.l id (CW.1 hin)]
    ·rfl
  | none=>
   have hlo:(lo.map λy=>DT (some (.int .i64)) y st.s)=(lo.map λy=>DT (some (.int .i64)) y st'.s):=by
    cases lo with
    | none=>rfl
    | some y=>simp only [BI];rw [e1 _ y (by simp [Op.operands])]
   have hhi:(hi.map λy=>DT (some (.int .i64)) y st.s)=(hi.map λy=>DT (some (.int .i64)) y st'.s):=by
    cases hi with
    | none=>rfl
    | some y=>simp only [BI];rw [e1 _ y (by simp [Op.operands])]
   simp only [FZ,sh,hlo,hhi,nl]
   rw [e1 _ x (by simp [Op.operands])]
   have hin:=e2 (lk type E.tab) x (by simp [Op.operands])
   split
   ·rename_i id heq
    rw [heq] at hin
    rw [<- h.l id (CW.1 hin)]
   ·rename_i id a b heq
    rw [heq] at hin
    rw [<- h.l id (CW.1 hin)]
   ·rfl
 | extract x i=>simp only [FZ];rw [e1 _ x (by simp [Op.operands])]
 | makeFunc f first caps=>
  cases f with
  | func g=>
   simp only [FZ]
   have:(caps.toList.map λx=>DT none x st.s)=(caps.toList.map λx=>DT none x st'.s):=by
    refine List.map_congr_left λx hx=>e1 none x ?_
    simp only [Op.operands]
    simp
    exact Or.inr (by simpa using hx)
   rw [this]
  | _=>simp only [FZ,sh,nl]
 | build t parts=>
  have hp:∀ i,Operand.tmp i∈(XV parts.toList).map (·.2)->i∈S:=λi hi=>hs i (by
   obtain ⟨p,h1,h2⟩:=List.mem_map.1 hi
   have:Operand.tmp i∈parts.toList.map (·.2):=List.mem_map.2 ⟨p,bM.1 h1,h2⟩
   simpa [Op.operands] using this)
  simp only [FZ,sh,hav]
  congr 1
  funext ty
  congr 1
  cases ty <;> simp only [QDR h _ _ _ hp]
 | buildSlice t n parts=>
  have hp:∀ i,Operand.tmp i∈parts.toList.map (·.2)->i∈S:=λi hi=>hs i (by simpa [Op.operands] using hi)
  simp only [FZ]
  congr 1
  funext ty
  cases ty <;> simp only [tT h _ _ hp]
 | convert src dst x=>simp only [FZ,sh];simp only [e1 _ x (by simp [Op.operands])]
 | makeMap t hint=>cases hint <;> simp only [FZ,sh,nl]
 | lookup t m x c=>
  simp only [FZ,QFf]
  have hin:=e2 none m (by simp [Op.operands])
  rw [e1 none m (by simp [Op.operands])]
  split
  ·rename_i i heq
   rw [heq] at hin
   rw [<- h.l i (CW.1 hin)]
   split
   ·rename_i kt vt es _
    rw [<- e1 (some kt) x (by simp [Op.operands]),UL h 6 _ _ (Sy h (some kt) x λi hi=>hs i (by rw [<- hi];simp [Op.operands]))]
   ·rfl
  ·rfl
 | makeSlice t l c=>simp only [FZ];simp only [e1 _ l (by simp [Op.operands]),e1 _ c (by simp [Op.operands])]
 | call c=>
  obtain ⟨callee,args,ts⟩:=c
  cases callee with
  | value f=>
   have hp:∀ i,Operand.tmp i∈args.toList->i∈S:=λi hi=>hs i (by simp [Op.operands,Call.operands];exact .inr (by simpa using hi))
   simp only [FZ]
   rw [e1 none f (by simp [Op.operands,Call.operands])]
   split
   ·congr 1
    funext fn
    unfold wC
    rw [lg h _ _ hp,vZ h _ _ _ hp]
   ·rfl
  | invoke r m=>simp only [FZ,sh,nl]
  | builtin b=>simp only [FZ,sh,nl]
 | _=>simp only [FZ,sh,nl]
theorem QBZ (h:Ag S C st st') {e:Ty} {rv:RV} (hr:Xb C rv=true):vC st.l e rv=vC st'.l e rv:=by
 cases rv with
 | row id=>simp only [vC,h.l id (CW.1 hr)]
 | sub id lo hi=>simp only [vC,h.l id (CW.1 hr)]
 | _=>rfl
theorem QM0 (h:Ag S C st st') {tab:List (TypeId×Ty)} {u:TypeId} {e:Ty} {rv:RV} (hr:Xb C rv=true):QEV tab u st.l e rv=QEV tab u st'.l e rv:=by
 cases rv with
 | row id=>simp only [QEV,h.l id (CW.1 hr)]
 | sub id lo hi=>simp only [QEV,h.l id (CW.1 hr)]
 | val v=>obtain ⟨t,y⟩:=v;cases t <;> rfl
 | _=>rfl
theorem QKU (h:Ag S C st st') {args:Array Operand} {ts:Array TypeId} (hp:∀ i,Operand.tmp i∈args.toList->i∈S) (k:(e:Ty)->List e.den->Option Nat->Option α):yT E args ts st k=yT E args ts st' k:=by
 unfold yT
 split
 ·rename_i sx x t u hargs hts
  have e1:∀ ty,DT ty sx st.s=DT ty sx st'.s:=λty=>HZ h ty sx λi hi=>hp i (by rw [hargs,hi];simp)
  have e2:∀ ty,DT ty x st.s=DT ty x st'.s:=λty=>HZ h ty x λi hi=>hp i (by rw [hargs,hi];simp)
  split
  ·rename_i e _
   rw [QBZ h (Sy h (some (.slice e)) sx λi hi=>hp i (by rw [hargs,hi];simp)),QM0 h (Sy h (lk u E.tab) x λi hi=>hp i (by rw [hargs,hi];simp)),e1,e2]
  ·rfl
 ·rfl
theorem QLI (h:Ag S C st st') {t:TypeId} {m x y:Operand} (hm:∀ i,m=.tmp i->i∈S) (hx:∀ i,x=.tmp i->i∈S) (hy:∀ i,y=.tmp i->i∈S) (k:Nat->Ob->Option α):vK E t m x y st k=vK E t m x y st' k:=by
 have hin:=Sy h none m hm
 unfold vK
 rw [<- HZ h none m hm]
 split
 ·rename_i i heq
  rw [heq] at hin
  rw [<- h.l i (CW.1 hin)]
  split
  ·rename_i kt vt es _
   rw [<- HZ h (some kt) x hx,<- HZ h (some vt) y hy,UL h 6 _ _ (Sy h (some kt) x hx)]
   congr 1
   congr 1
   funext v
   congr 1
   funext z
   exact UL h 6 _ _ (Sy h (some vt) y hy)
  ·rfl
 ·rfl
theorem QEW (h:Ag S C st st') {t:TypeId} {x y:Operand} (hx:∀ i,x=.tmp i->i∈S) (hy:∀ i,y=.tmp i->i∈S) (k:Nat->Ob->Option α):Wo E t x y st k=Wo E t x y st' k:=by
 have e1:∀ ty,DT ty x st.s=DT ty x st'.s:=λty=>HZ h ty x hx
 have e2:∀ ty,DT ty y st.s=DT ty y st'.s:=λty=>HZ h ty y hy
 have hin:=Sy h (lk t E.tab) x hx
 unfold Wo
 simp only [e2]
 rw [e1] at hin ⊢
 split
 ·rename_i id p heq
  rw [heq] at hin
  rw [<- h.l id (CW.1 hin)]
 ·rfl
theorem qB:∀ {rv:RV} {acc:List Nat} {i:Nat},Xb C rv=true->i∈X9 rv acc->i∈C\/i∈acc:=by
 intro rv
 induction rv with
 | row id=>intro acc i h hi;rcases List.mem_cons.1 hi with rfl | hi;exact .inl (CW.1 h);exact .inr hi
 | sub id _ _=>intro acc i h hi;rcases List.mem_cons.1 hi with rfl | hi;exact .inl (CW.1 h);exact .inr hi
 | loc id _=>intro acc i h hi;rcases List.mem_cons.1 hi with rfl | hi;exact .inl (CW.1 h);exact .inr hi
 | mp id=>intro acc i h hi;rcases List.mem_cons.1 hi with rfl | hi;exact .inl (CW.1 h);exact .inr hi
 | yl id=>intro acc i h hi;rcases List.mem_cons.1 hi with rfl | hi;exact .inl (CW.1 h);exact .inr hi
 | OH f c ih=>intro acc i h hi;exact ih h hi
 | agg t r ih=>intro acc i h hi;exact ih h hi
 | Oj r ih=>intro acc i h hi;exact ih h hi
 | pair a b iha ihb=>
  intro acc i h hi
  simp only [Xb,AP] at h
  rcases iha h.1 hi with h1 | h1
  ·exact .inl h1
  ·exact ihb h.2 h1
 | _=>intro acc i _ hi;exact .inr hi
theorem QFa:∀ {Gl:List RV},(∀ rv∈Gl,Xb C rv=true)->∀ i∈QGy Gl,i∈C
 | [],_,i,hi=>by simp [QGy] at hi
 | r::rs,h,i,hi=>by
  rcases qB (h r (by simp)) hi with h1 | h1
  ·exact h1
  ·exact QFa (λrv hr=>h rv (by simp [hr])) i h1
theorem RN (h:Ag S C st st'):∀ (n:Nat) (todo seen:List Nat),(∀ i∈todo,i∈C)->reach st.l n todo seen=reach st'.l n todo seen/\∀ i∈reach st.l n todo seen,i∈C\/i∈seen
 | 0,_,seen,_=>⟨rfl,λi hi=>.inr hi⟩
 | n+1,[],seen,_=>⟨rfl,λi hi=>.inr hi⟩
 | n+1,id::todo,seen,ht=>by
  have hid:=ht id (by simp)
  have ht':∀ i∈todo,i∈C:=λi hi=>ht i (by simp [hi])
  have snoc:∀ {i:Nat},i∈C\/i∈seen++[id]->i∈C\/i∈seen:=by
   intro i hi
   rcases hi with hi | hi
   ·exact .inl hi
   ·rcases List.mem_append.1 hi with hi | hi
    ·exact .inr hi
    ·simp at hi;subst hi;exact .inl hid
  simp only [reach]
  rw [<- h.l id hid]
  cases seen.any (Nat.beq id) with
  | true=>exact RN h n todo seen ht'
  | false=>
   simp only [AJ]
   split
   ·rename_i t con hl
    obtain ⟨h1,h2⟩:=RN h n (X9 con todo) (seen++[id]) λi hi=>(qB (h.c id hid t con hl) hi).elim (λh=>h) (ht' i)
    exact ⟨h1,λi hi=>snoc (h2 i hi)⟩
   ·obtain ⟨h1,h2⟩:=RN h n todo (seen++[id]) ht'
    exact ⟨h1,λi hi=>snoc (h2 i hi)⟩
   ·obtain ⟨h1,h2⟩:=RN h n todo (seen++[id]) ht'
    exact ⟨h1,λi hi=>snoc (h2 i hi)⟩
   ·rename_i con q hl
    obtain ⟨h1,h2⟩:=RN h n (X9 con todo) (seen++[id]) λi hi=>(qB (h.y id hid con q hl) hi).elim (λh=>h) (ht' i)
    exact ⟨h1,λi hi=>snoc (h2 i hi)⟩
   ·exact RN h n todo seen ht'
theorem QCT (h:Ag S C st st') {f:Nat->Option Nat}:∀ (ids:List Nat) (n:Nat),(∀ i∈ids,i∈C)->VQ f st.l ids n=VQ f st'.l ids n
 | [],_,_=>rfl
 | i::r,n,hi=>by
  simp only [VQ]
  rw [<- h.l i (hi i (by simp)),QCT h r (n+1) λj hj=>hi j (by simp [hj])]
theorem QLE:∀ {r:RV} {cs:List RV},Yl r=some cs->Xb C r=true->∀ rv∈cs,Xb C rv=true:=by
 intro r
 induction r with
 | unit=>intro cs h _ rv hr;cases h;cases hr
 | pair a b _ ihb=>
  intro cs h hc rv hr
  simp only [Xb,AP] at hc
  simp only [Yl] at h
  obtain ⟨r,h1,h⟩:=AO.1 h
  cases h
  rcases List.mem_cons.1 hr with rfl | hr
  ·exact hc.1
  ·exact ihb h1 hc.2 rv hr
 | _=>intro cs h;cases h
theorem QLd (h:Ag S C st st') {c:UO} {args:Array Operand} {ts:Array TypeId} {caps:RV} (hp:∀ i,Operand.tmp i∈args.toList->i∈S) (hc:Xb C caps=true) (k:Nat->Ob->RV->Option α):nQ E c args ts caps st k=nQ E c args ts caps st' k:=by
 have hargs:((args.toList.zip ts.toList).map λp=>DT (lk p.2 E.tab) p.1 st.s)=(args.toList.zip ts.toList).map λp=>DT (lk p.2 E.tab) p.1 st'.s:=
  List.map_congr_left λp hp'=>HZ h _ p.1 λi e=>hp i (by rw [<- e];exact (List.of_mem_zip hp').1)
 have hin:∀ rv∈(args.toList.zip ts.toList).map λp=>DT (lk p.2 E.tab) p.1 st.s,Xb C rv=true:=by
  intro rv hr
  obtain ⟨p,hp',rfl⟩:=List.mem_map.1 hr
  exact Sy h _ p.1 λi e=>hp i (by rw [<- e];exact (List.of_mem_zip hp').1)
 unfold nQ
 rw [<- hargs]
 congr 1
 cases hcs:Yl caps with
 | none=>rfl
 | some cs=>
  simp only [AA]
  have hin2:∀ rv∈((args.toList.zip ts.toList).map λp=>DT (lk p.2 E.tab) p.1 st.s)++cs,Xb C rv=true:=by
   intro rv hr
   rcases List.mem_append.1 hr with hr | hr
   ·exact hin rv hr
   ·exact QLE hcs hc rv hr
  obtain ⟨h1,h2⟩:=RN h 200 (QGy (((args.toList.zip ts.toList).map λp=>DT (lk p.2 E.tab) p.1 st.s)++cs)) [] (QFa hin2)
  unfold QOv
  have h3:XF st'.l (((args.toList.zip ts.toList).map λp=>DT (lk p.2 E.tab) p.1 st.s)++cs)=XF st.l (((args.toList.zip ts.toList).map λp=>DT (lk p.2 E.tab) p.1 st.s)++cs):=h1.symm
  have h4:∀ i∈XF st.l (((args.toList.zip ts.toList).map λp=>DT (lk p.2 E.tab) p.1 st.s)++cs),i∈C:=λi hi=>(h2 i hi).resolve_right (by simp)
  rw [h3]
  generalize XF st.l (((args.toList.zip ts.toList).map λp=>DT (lk p.2 E.tab) p.1 st.s)++cs)=ids at h4
  have h5:VQ (λid=>Q9 id ids 0) st.l ids 0=VQ (λid=>Q9 id ids 0) st'.l ids 0:=QCT h ids 0 h4
  simp only [h5]
theorem xk (h:Ag S C st st') {o:Oper} (hS:∀ i∈slotsOf o,i∈S) {γ:Type} {T:List (FuncId×γ)} {yes QaB:γ->Array Operand->Array TypeId->RV->Option α} {no no':Option α} (hn:no=no')
  (hy:∀ c args ts caps,(∀ i,Operand.tmp i∈args.toList->i∈S)->Xb C caps=true->yes c args ts caps=QaB c args ts caps):jC T o st yes no=jC T o st' QaB no':=by
 unfold jC
 subst hn
 split
 ·rename_i f args ts hop
  have hf:∀ i,f=.tmp i->i∈S:=λi hi=>hS i (Kn (by simp [hop,Op.operands,Call.operands,hi]))
  rw [<- HZ h none f hf]
  have hin:=Sy h none f hf
  split
  ·rename_i g caps heq
   rw [heq] at hin
   split
   ·exact hy _ _ _ _ (λi hi=>hS i (Kn (by simp [hop,Op.operands,Call.operands];simp at hi;exact .inr hi))) hin
   ·rfl
  ·rfl
 ·rfl
theorem xg {γ:Type} {T:List (FuncId×γ)} {o:Oper} {yes:γ->Array Operand->Array TypeId->RV->Option α} {no:Option α} {r:α} (h:jC T o st yes no=some r) :
  (∃ f args ts g caps c,o.op=.call { callee:=.value f,args:=args,argTypes:=ts }/\DT none f st.s=.OH g caps/\lk g T=some c/\yes c args ts caps=some r)\/no=some r:=by
 unfold jC at h
 split at h
 ·rename_i f args ts hop
  split at h
  ·rename_i g caps heq
   split at h
   ·rename_i c hc
    exact .inl ⟨f,args,ts,g,caps,c,hop,heq,hc,h⟩
   ·exact .inr h
  ·exact .inr h
 ·exact .inr h
theorem QCR {γ:Type} {T:List (FuncId×γ)} {X:Type} {o:Oper} {yes:(β:Type)->(X->Option β)->γ->Array Operand->Array TypeId->RV->Option β} {no:(β:Type)->(X->Option β)->Option β} (hy:∀ c a t r,PC (λβ k=>yes β k c a t r)) (hn:PC no):PC (λβ k=>jC T o st (yes β k) (no β k)):=by
 unfold jC
 split
 ·split
  ·split
   ·exact hy _ _ _ _
   ·exact hn
  ·exact hn
 ·exact hn
theorem QGr (h:Ag S C st st') {c:Yv} {args:Array Operand} {ts:Array TypeId} {caps:RV} (hp:∀ i,Operand.tmp i∈args.toList->i∈S) (k:(e:Ty)->List e.den->Option Nat->Option α):dG E c args ts caps st k=dG E c args ts caps st' k:=by
 unfold dG
 split
 ·rename_i sx xs t us hargs _
  have e1:DT (lk t E.tab) sx st.s=DT (lk t E.tab) sx st'.s:=HZ h _ sx λi hi=>hp i (by rw [hargs,hi];simp)
  have e2:((xs.zip us).map λp=>DT (lk p.2 E.tab) p.1 st.s)=(xs.zip us).map λp=>DT (lk p.2 E.tab) p.1 st'.s:=
   List.map_congr_left λp hp'=>HZ h _ p.1 λi e=>hp i (by rw [hargs,<- e];exact List.mem_cons_of_mem _ (List.of_mem_zip hp').1)
  rw [QBZ h (Sy h (lk t E.tab) sx λi hi=>hp i (by rw [hargs,hi];simp)),e1,e2]
 ·rfl
theorem rU {c:Yv} {args:Array Operand} {ts:Array TypeId} {caps:RV}:PC (λβ (k:((e:Ty)×List e.den×Option Nat)->Option β)=>dG E c args ts caps st λe z old=>k ⟨e,z,old⟩):=by
 unfold dG
 split
 ·exact PC.bif (PC.bind (X:=(e:Ty)×List e.den×Option Nat) λX=>PC.bind λy=>PC.bind λz=>PC.ret _) PC.none
 ·exact PC.none
theorem tQ (h:Ag S C st st') {id:Nat} {u:Ty} {xs:List u.den} {t:Ty}:∀ (i:Nat) (ps:List (Nat×Operand)),(∀ i,Operand.tmp i∈ps.map (·.2)->i∈S)->Zp id u xs t st.s i ps=Zp id u xs t st'.s i ps
 | _,[],_=>rfl
 | i,(j,x)::r,hp=>by
  unfold Zp
  rw [HZ h (some t) x λi e=>hp i (by simp [e]),tQ h (i+1) r λi hi=>hp i (by simp at hi ⊢;exact .inr hi)]
theorem QHJ (h:Ag S C st st') {o:Oper} (hS:∀ i∈slotsOf o,i∈S):dQ o st=dQ o st':=by
 unfold dQ
 have:∀ l:List Nat,(∀ i∈l,i∈S)->l.foldr (λi acc=>match lk i st.s with | some rv=>X9 rv acc | none=>acc) []=l.foldr (λi acc=>match lk i st'.s with | some rv=>X9 rv acc | none=>acc) []:=by
  intro l
  induction l with
  | nil=>intro _;rfl
  | cons i l ih=>
   intro hl
   simp only [List.foldr_cons]
   rw [ih λj hj=>hl j (by simp [hj]),h.s i (hl i (by simp))]
 exact this _ hS
theorem QLR (h:Ag S C st st') {o:Oper} (hS:∀ i∈slotsOf o,i∈S):∀ i∈dQ o st,i∈C:=by
 unfold dQ
 have:∀ l:List Nat,(∀ i∈l,i∈S)->∀ i∈l.foldr (λi acc=>match lk i st.s with | some rv=>X9 rv acc | none=>acc) [],i∈C:=by
  intro l
  induction l with
  | nil=>intro _ i hi;simp at hi
  | cons j l ih=>
   intro hl i hi
   simp only [List.foldr_cons] at hi
   cases hs:lk j st.s with
   | none=>rw [hs] at hi;exact ih (λj hj=>hl j (by simp [hj])) i hi
   | some rv=>
    rw [hs] at hi
    exact (qB (h.n j (hl j (by simp)) rv hs) hi).elim (λh=>h) (ih (λj hj=>hl j (by simp [hj])) i)
 exact this _ hS
theorem QDP (h:Ag S C st st') {t:TypeId} {n:Nat} {parts:List (Nat×Operand)} {id:Nat} (hp:∀ i,Operand.tmp i∈parts.map (·.2)->i∈S) (hid:id∈C) (k:(e:Ty)->List e.den->Option α):Xl E t n parts id st k=Xl E t n parts id st' k:=by
 unfold Xl
 rw [<- h.l id hid]
 split
 ·congr 1
  funext ty
  split
  ·rw [tQ h 0 parts hp]
  ·rfl
 ·rfl
end
end Go.Lift
