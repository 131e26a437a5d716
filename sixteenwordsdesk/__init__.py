"""Words sixteen at a time: picked, packed, met, joined; rows of them."""
